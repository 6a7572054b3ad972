// Package token is layer 1: see shared/doc/01-token.md.
package token

import (
	"bytes"
	"maps"
	"slices"
	"strings"

	"detent/api"
)

const (
	blanks = " \t\n\r"
	marks  = "{}()[];.=+-*<"
	same   = "=="
)

// Scan tells the tokens of a text, and what is wrong with it.
func Scan(b []byte) ([]api.Token, []api.Diag) {
	var tokens []api.Token
	var wrong []api.Diag
	words := wordSet()
	place := placesOf(b)
	for at := nextAt(b, 0); at < len(b); {
		line, col := place(at)
		end := at + 1
		fault := api.ErrChar
		if kind := kindAt(b[at]); kind != 0 {
			end = endOf(b, at, kind)
			var t api.Token
			t, fault = tokenOf(string(b[at:end]), kind, words)
			t.Line, t.Col = line, col
			tokens = append(tokens, t)
		}
		if fault != api.OK {
			wrong = append(wrong, api.Diag{Line: line, Col: col, Err: fault})
		}
		at = nextAt(b, end)
	}
	return tokens, wrong
}

// Words tells all words, rising.
func Words() []string {
	return slices.Sorted(maps.Keys(wordSet()))
}

// IsWord tells whether a text is one of the words.
func IsWord(s string) bool {
	_, is := wordSet()[s]
	return is
}

// IsName tells whether a text is a name that is not too long.
func IsName(s string) bool {
	return len(s) <= api.MaxWord && isWhole(s, api.TokenName) && !IsWord(s)
}

// Number tells the number that a text is, and whether it is one that is not too great.
func Number(s string) (int64, bool) {
	if !isWhole(s, api.TokenNumber) {
		return 0, false
	}
	n := int64(0)
	for i := range len(s) {
		n = n*10 + int64(s[i]-'0')
		// Told here, since more digits could bring n round to a small number.
		if n > api.MaxNumber {
			return 0, false
		}
	}
	return n, true
}

// Print tells tokens as a text, on one line.
func Print(l ...api.Token) string {
	var text strings.Builder
	for i, t := range l {
		if i > 0 {
			text.WriteByte(' ')
		}
		text.WriteString(t.Text)
	}
	if len(l) > 0 {
		text.WriteByte('\n')
	}
	return text.String()
}

func wordSet() map[string]struct{} {
	return map[string]struct{}{
		"after": {}, "arr": {}, "call": {}, "cancel": {}, "class": {}, "comp": {},
		"create": {}, "destroy": {}, "disable": {}, "else": {}, "enable": {}, "event": {},
		"fn": {}, "front": {}, "hand": {}, "if": {}, "int": {}, "it": {},
		"join": {}, "len": {}, "log": {}, "looper": {}, "main": {}, "new": {},
		"null": {}, "off": {}, "on": {}, "post": {}, "return": {}, "spawn": {},
		"start": {}, "stop": {}, "to": {}, "tok": {}, "var": {}, "while": {},
	}
}

// placesOf answers a closure that tells the line and the column of a position of b.
// It counts on from where it was asked last, so that all places of a text cost one pass: positions must rise.
func placesOf(b []byte) func(at int) (int, int) {
	line, first, seen := 1, 0, 0
	return func(at int) (int, int) {
		for ; seen < at; seen++ {
			if b[seen] == '\n' {
				line++
				first = seen + 1
			}
		}
		return line, at - first + 1
	}
}

// nextAt tells where, from at on, blanks and comments are over.
func nextAt(b []byte, at int) int {
	for at < len(b) {
		switch {
		case b[at] == '#':
			for at < len(b) && b[at] != '\n' {
				at++
			}
		case strings.IndexByte(blanks, b[at]) >= 0:
			at++
		default:
			return at
		}
	}
	return at
}

// kindAt tells the kind of the token that begins with a byte (0: none does); a word is taken for a name.
func kindAt(c byte) api.TokenKind {
	switch {
	case isLetter(c):
		return api.TokenName
	case isDigit(c):
		return api.TokenNumber
	case strings.IndexByte(marks, c) >= 0:
		return api.TokenMark
	}
	return 0
}

// goesOn tells whether a token of a kind, that has begun, may go on with a byte.
func goesOn(c byte, kind api.TokenKind) bool {
	switch kind {
	case api.TokenName:
		if isLetter(c) {
			return true
		}
		fallthrough
	case api.TokenNumber:
		return isDigit(c)
	}
	return false
}

// endOf tells where the token of a kind ends that begins at at.
func endOf(b []byte, at int, kind api.TokenKind) int {
	if bytes.HasPrefix(b[at:], []byte(same)) {
		return at + len(same)
	}
	end := at + 1
	for end < len(b) && goesOn(b[end], kind) {
		end++
	}
	return end
}

// tokenOf tells the token that a text is, without its place, and what is wrong with it.
func tokenOf(text string, kind api.TokenKind, words map[string]struct{}) (api.Token, api.Errno) {
	t := api.Token{Kind: kind, Text: text}
	switch kind {
	case api.TokenName:
		if _, is := words[text]; is {
			t.Kind = api.TokenWord
		}
		if len(text) > api.MaxWord {
			return t, api.ErrLimit
		}
	case api.TokenNumber:
		n, fits := Number(text)
		if !fits {
			return t, api.ErrLimit
		}
		t.N = n
	}
	return t, api.OK
}

// isWhole tells whether a text is, from its first byte to its last one, of one token's kind.
func isWhole(s string, kind api.TokenKind) bool {
	return s != "" && kindAt(s[0]) == kind && endOf([]byte(s), 0, kind) == len(s)
}

func isLetter(c byte) bool {
	return c == '_' || 'a' <= c && c <= 'z' || 'A' <= c && c <= 'Z'
}

func isDigit(c byte) bool {
	return '0' <= c && c <= '9'
}
