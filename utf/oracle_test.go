package utf_test

import (
	"regexp"
	"strconv"
	"strings"
	"sync"

	"accordion/api"
)

// The functions of this file follow the chapter's definitions item by item; they share nothing with the package or with the library's decoder.

func isScalar(r rune) bool {
	return r >= 0 && r <= 0x10ffff && !(r >= 0xd800 && r <= 0xdfff)
}

func encode(r rune) string {
	low := func(shift int) byte { return byte(0x80 + r>>shift&0x3f) }
	switch {
	case r < 0x80:
		return string([]byte{byte(r)})
	case r < 0x800:
		return string([]byte{byte(0xc0 + r>>6), low(0)})
	case r < 0x10000:
		return string([]byte{byte(0xe0 + r>>12), low(6), low(0)})
	}
	return string([]byte{byte(0xf0 + r>>18), low(12), low(6), low(0)})
}

// forms holds every encoding with its scalar value, and every incomplete encoding.
type forms struct {
	values     map[string]rune
	incomplete map[string]bool
}

var allForms = sync.OnceValue(func() forms {
	f := forms{values: map[string]rune{}, incomplete: map[string]bool{}}
	for r := rune(0); r <= 0x10ffff; r++ {
		if !isScalar(r) {
			continue
		}
		c := encode(r)
		f.values[c] = r
		for n := 1; n < len(c); n++ {
			f.incomplete[c[:n]] = true
		}
	}
	return f
})

// wantNext looks for the encoding that s starts with.
func wantNext(s string) (r rune, n int, is bool) {
	for n := 1; n <= 4 && n <= len(s); n++ {
		if r, is := allForms().values[s[:n]]; is {
			return r, n, true
		}
	}
	return 0, 0, false
}

func wantValid(s string) bool {
	for s != "" {
		_, n, is := wantNext(s)
		if !is {
			return false
		}
		s = s[n:]
	}
	return true
}

var shortItems = map[byte]string{'"': `\"`, '\\': `\\`, 8: `\b`, 0xc: `\f`, 0xa: `\n`, 0xd: `\r`, 9: `\t`}

// wantQuote takes valid UTF-8, in which a byte below 80 is always a scalar value of its own.
func wantQuote(s string) string {
	var b strings.Builder
	b.WriteByte('"')
	for i := range len(s) {
		if short, is := shortItems[s[i]]; is {
			b.WriteString(short)
		} else if s[i] < 0x20 {
			b.WriteString(`\u` + hexadecimal(rune(s[i])))
		} else {
			b.WriteByte(s[i])
		}
	}
	b.WriteByte('"')
	return b.String()
}

// hexadecimal writes four lower-case digits.
func hexadecimal(r rune) string {
	return strconv.FormatInt(0x10000+int64(r), 16)[1:]
}

var (
	letterItem = regexp.MustCompile(`^\\["\\/bfnrt]`)
	numberItem = regexp.MustCompile(`^\\u([0-9a-fA-F]{4})`)
	pairItem   = regexp.MustCompile(`^\\u([dD][89abAB][0-9a-fA-F]{2})\\u([dD][c-fC-F][0-9a-fA-F]{2})`)
)

var letterText = map[byte]string{'"': "\x22", '\\': "\x5c", '/': "\x2f", 'b': "\x08", 'f': "\x0c", 'n': "\x0a", 'r': "\x0d", 't': "\x09"}

func parse(digits string) rune {
	n, err := strconv.ParseInt(digits, 16, 32)
	if err != nil {
		panic(err)
	}
	return rune(n)
}

// wantItem looks for the item that s starts with, and for what it denotes.
func wantItem(s string) (text string, n int, is bool) {
	if letterItem.MatchString(s) {
		return letterText[s[1]], 2, true
	}
	if m := numberItem.FindStringSubmatch(s); m != nil && isScalar(parse(m[1])) {
		return encode(parse(m[1])), 6, true
	}
	if m := pairItem.FindStringSubmatch(s); m != nil {
		return encode(0x10000 + 0x400*(parse(m[1])-0xd800) + parse(m[2]) - 0xdc00), 12, true
	}
	if r, n, is := wantNext(s); is && r >= 0x20 && r != '"' && r != '\\' {
		return s[:n], n, true
	}
	return "", 0, false
}

// items takes as many items as s starts with, and returns the rest.
func items(s string) (text, rest string) {
	for {
		t, n, is := wantItem(s)
		if !is {
			return text, s
		}
		text += t
		s = s[n:]
	}
}

// isItemStart tries all the ends of two escapes: any incomplete escape can be completed by one of them.
func isItemStart(s string) bool {
	if allForms().incomplete[s] {
		return true
	}
	if s == "" || s[0] != '\\' {
		return s == ""
	}
	for _, whole := range []string{`\u0000`, `\uD800\uDC00`} {
		for from := range whole {
			if _, n, is := wantItem(s + whole[from:]); is && n == len(s)+len(whole)-from {
				return true
			}
		}
	}
	return false
}

// isLiteralStart reports whether s is a prefix of a literal.
func isLiteralStart(s string) bool {
	if s == "" || s[0] != '"' {
		return s == ""
	}
	_, rest := items(s[1:])
	return rest == `"` || isItemStart(rest)
}

type unquoted struct {
	text  string
	n, at int
	e     api.Errno
}

func wantUnquote(s string) unquoted {
	if s != "" && s[0] == '"' {
		if text, rest := items(s[1:]); rest != "" && rest[0] == '"' {
			return unquoted{text: text, n: len(s) - len(rest) + 1}
		}
	}
	for at := range len(s) {
		if !isLiteralStart(s[:at+1]) {
			return unquoted{at: at, e: wantError(s[:at], s[at])}
		}
	}
	return unquoted{at: len(s), e: api.ErrTrunc}
}

// wantError takes a prefix of a literal and a byte with which no literal can go on.
func wantError(before string, c byte) api.Errno {
	if before == "" {
		return api.ErrEscape
	}
	_, rest := items(before[1:])
	if allForms().incomplete[rest] || rest == "" && c >= 0x80 {
		return api.ErrUtf
	}
	return api.ErrEscape
}
