package lex

import (
	"strconv"
	"strings"

	"accordion/api"
	"accordion/utf"
)

const digits = "0123456789"

// spellings holds, by kind, the input of the tokens that are always spelled the same.
var spellings = [Int]string{Open: "{", Close: "}", List: "[", Over: "]", Comma: ",", Colon: ":", Null: "null", False: "false", True: "true"}

// read reads the token at the start of a string that is not empty. Like the functions it calls, it returns the length of the token, or the offset of the error, as n.
func read(starts map[byte]int, s string) (t Token, n int, e api.Errno) {
	kind, is := starts[s[0]]
	switch {
	case !is:
		return Token{}, 0, api.ErrJson
	case kind == Int:
		return readNumber(s)
	case kind == Text:
		return readText(s)
	}
	return readSpelling(s, kind)
}

func readSpelling(s string, kind int) (t Token, n int, e api.Errno) {
	spelling := spellings[kind]
	for i := range len(spelling) {
		if i == len(s) || s[i] != spelling[i] {
			return Token{}, i, api.ErrJson
		}
	}
	return Token{Kind: kind}, len(spelling), api.OK
}

func readText(s string) (t Token, n int, e api.Errno) {
	text, n, at, e := utf.Unquote(s)
	if e != api.OK {
		return Token{}, at, e
	}
	return Token{Kind: Text, Text: text}, n, api.OK
}

// readNumber leaves it to the parsers of the library to refuse a fraction and an exponent, as well as an integer out of range.
func readNumber(s string) (t Token, n int, e api.Errno) {
	n, complete := measure(s)
	if !complete {
		return Token{}, n, api.ErrJson
	}
	if signed, err := strconv.ParseInt(s[:n], 10, 64); err == nil {
		return Token{Kind: Int, N: signed}, n, api.OK
	}
	if unsigned, err := strconv.ParseUint(s[:n], 10, 64); err == nil {
		return Token{Kind: Uint, U: unsigned}, n, api.OK
	}
	return Token{}, 0, api.ErrNumber
}

// measure returns the length of the number at the start of a string. If the number is incomplete, n is the offset at which a digit is missing.
func measure(s string) (n int, complete bool) {
	if startsWith(s, "-") {
		n++
	}
	if startsWith(s[n:], "0") {
		n, complete = n+1, true // further digits do not belong to the number
	} else {
		n, complete = skipDigits(s, n)
	}
	if complete && startsWith(s[n:], ".") {
		n, complete = skipDigits(s, n+1)
	}
	if complete && startsWith(s[n:], "eE") {
		n++
		if startsWith(s[n:], "+-") {
			n++
		}
		n, complete = skipDigits(s, n)
	}
	return n, complete
}

// skipDigits returns the offset after the digits at an offset, and whether there are any.
func skipDigits(s string, at int) (after int, is bool) {
	n := count(s[at:], digits)
	return at + n, n > 0
}

// count returns how many bytes at the start of a string are among the given ones.
func count(s, among string) int {
	n := 0
	for startsWith(s[n:], among) {
		n++
	}
	return n
}

func startsWith(s, among string) bool {
	return s != "" && strings.IndexByte(among, s[0]) >= 0
}
