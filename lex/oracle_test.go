package lex_test

import (
	"math/big"
	"regexp"
	"strings"

	"accordion/api"
	"accordion/lex"
	"accordion/utf"
)

// The functions of this file follow the chapter's definitions, with its own numbers; of the program they use only the type of a token, the error numbers and the lower layer utf.

var (
	number = regexp.MustCompile(`^-?(0|[1-9][0-9]*)(\.[0-9]+)?([eE][+-]?[0-9]+)?$`)
	whole  = regexp.MustCompile(`^-?[0-9]+$`)
	// numberStart matches the prefixes of numbers: those that end within the digits, the fraction and the exponent.
	numberStart = longest(`^(-|-?(0|[1-9][0-9]*)|-?(0|[1-9][0-9]*)\.[0-9]*|-?(0|[1-9][0-9]*)(\.[0-9]+)?[eE][+-]?[0-9]*)`)
)

// wordKinds holds the kinds of the tokens that have one spelling.
var wordKinds = map[string]int{"{": 1, "}": 2, "[": 3, "]": 4, ",": 5, ":": 6, "null": 7, "false": 8, "true": 9}

func longest(expression string) *regexp.Regexp {
	r := regexp.MustCompile(expression)
	r.Longest()
	return r
}

// skipWhite returns the first offset from at on that has no white space.
func skipWhite(s string, at int) int {
	for at < len(s) && (s[at] == 0x20 || s[at] == 0x09 || s[at] == 0x0a || s[at] == 0x0d) {
		at++
	}
	return at
}

// wantNext is P10.1.
func wantNext(s string, at int) (lex.Token, api.Errno) {
	if at < 0 || at > len(s) {
		return lex.Token{}, 6
	}
	from := skipWhite(s, at)
	t, n, e := lex.Token{}, 0, api.Errno(0)
	switch rest := s[from:]; {
	case rest == "":
	case rest[0] == '"':
		t, n, e = wantText(rest)
	case rest[0] == '-' || rest[0] >= '0' && rest[0] <= '9':
		t, n, e = wantNumber(rest)
	default:
		t, n, e = wantWord(rest)
	}
	t.From, t.To = from, from+n
	if e != 0 {
		t.From = t.To
	}
	return t, e
}

// The following functions return the length of the token, or the offset of the error, as n.

func wantText(s string) (t lex.Token, n int, e api.Errno) {
	text, n, at, e := utf.Unquote(s)
	if e != 0 {
		return lex.Token{}, at, e
	}
	return lex.Token{Kind: 12, Text: text}, n, 0
}

func wantNumber(s string) (t lex.Token, n int, e api.Errno) {
	read := numberStart.FindString(s)
	if !number.MatchString(read) {
		return lex.Token{}, len(read), 100
	}
	if whole.MatchString(read) {
		value, _ := new(big.Int).SetString(read, 10)
		switch {
		case value.IsInt64():
			return lex.Token{Kind: 10, N: value.Int64()}, len(read), 0
		case value.IsUint64():
			return lex.Token{Kind: 11, U: value.Uint64()}, len(read), 0
		}
	}
	return lex.Token{}, 0, 101
}

// wantWord relies on the first bytes of the words, which differ.
func wantWord(s string) (t lex.Token, n int, e api.Errno) {
	for word, kind := range wordKinds {
		if strings.HasPrefix(s, word) {
			return lex.Token{Kind: kind}, len(word), 0
		}
		for len(s) > n && len(word) > n && s[:n+1] == word[:n+1] {
			n++
		}
	}
	return lex.Token{}, n, 100
}

// wantAll is P10.2.
func wantAll(s string) (l []lex.Token, at int, e api.Errno) {
	if len(s) > 1<<20 {
		return nil, 0, 5
	}
	for {
		t, e := wantNext(s, at)
		if e != 0 {
			return nil, t.From, e
		}
		if t.Kind == 0 {
			return l, 0, 0
		}
		l = append(l, t)
		at = t.To
	}
}
