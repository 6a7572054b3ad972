package script

import (
	"strconv"
	"strings"

	"detent/api"
)

// shape is how entries of a kind are written: their word, and whether they have an At, an N.
type shape struct {
	word  string
	at, n bool
}

var shapes = [...]shape{
	api.EntryRun:    {"run", true, false},
	api.EntryWork:   {"work", true, false},
	api.EntryTick:   {"tick", false, true},
	api.EntryInject: {"inject", true, true},
	api.EntryLife:   {"life", true, true},
}

// Text tells a script's text (nothing, if one of its entries may not be).
func Text(l ...api.Entry) string {
	var text strings.Builder
	for _, e := range l {
		if !May(e) {
			return ""
		}
		text.WriteString(line(e))
		text.WriteByte('\n')
	}
	return text.String()
}

// Of tells the script of a text.
func Of(s string) ([]api.Entry, api.Errno) {
	var l []api.Entry
lines:
	for s != "" {
		text, rest, ended := strings.Cut(s, "\n")
		s = rest
		for kind := api.EntryRun; kind <= api.EntryLife; kind++ {
			if e, is := read(text, kind); is && ended {
				l = append(l, e)
				continue lines
			}
		}
		return nil, api.ErrBytes
	}
	return l, api.OK
}

// line tells the line of an entry that may be, without its end.
func line(e api.Entry) string {
	x := shapes[e.Kind]
	words := []string{x.word}
	if x.at {
		words = append(words, strconv.Itoa(e.At))
	}
	if x.n {
		words = append(words, strconv.FormatInt(e.N, 10))
	}
	return strings.Join(words, " ")
}

// read tells the entry of a kind whose line a text is, if it is one's.
func read(text string, kind api.EntryKind) (api.Entry, bool) {
	e, x := api.Entry{Kind: kind}, shapes[kind]
	// A line has three words at most: what is more stays with the last one.
	words := strings.SplitN(text, " ", 3)
	if words[0] != x.word {
		return e, false
	}
	last := len(words) - 1
	if x.at {
		e.At, _ = strconv.Atoi(words[min(1, last)])
	}
	if x.n {
		e.N, _ = strconv.ParseInt(words[last], 10, 64)
	}
	// An entry that was read of what is no number, or of another one's place, has another line.
	return e, May(e) && line(e) == text
}
