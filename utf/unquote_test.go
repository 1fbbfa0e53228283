package utf_test

import (
	"encoding/json"
	"strings"
	"testing"

	"accordion/api"
	"accordion/utf"
)

// literals holds items of every form, alone and beside each other.
var literals = []string{
	`""`, `"a"`, `" !#[]~/"`, "\"\x7f\"", `"abc def"`,
	`"\"\\\/\b\f\n\r\t"`, `"\"a"`, `"\\"`, `"\\\""`,
	`"\u0000"`, `"\u0041b"`, `"\u00e4\u00E4"`, `"\u20ac"`, `"\uABCD\uefAB"`, `"\ud7ff\uD000"`, `"\ue000\uFFFF"`, `"\uFFFD\u0022"`,
	`"\ud800\udc00"`, `"\uDBFF\uDFFF"`, `"\uD83D\uDE00x"`, `"\uDaBc\uDeF9\n"`, `"\ud834\udd1e\ud834\udd1e"`,
	"\"\xc2\x80\xdf\xbf\"", "\"\xe0\xa0\x80\xe0\xbf\xbf\"", "\"\xe1\x80\xbf\xec\xbf\x80\"", "\"\xed\x80\x80\xed\x9f\xbf\"", "\"\xee\x80\x80\xef\xbf\xbd\"",
	"\"\xf0\x90\x80\x80\xf0\xbf\xbf\xbf\"", "\"\xf1\x80\xbf\x80\xf3\xbf\x80\xbf\"", "\"\xf4\x80\x80\x80\xf4\x8f\xbf\xbf\"",
	"\"\u00e4\\n\u20ac\\u20ac\U0001f600\\ud83d\\ude00\\\"\"",
}

// tails holds bytes after a literal, some of which would be items, faults or quotation marks within one.
var tails = []string{"", " ", "z", `"`, `""`, `\`, `\"`, `\u0041"`, "\x00", "\n", "\x80", "\xc3", "\xff", ", \"next\"]"}

func checkUnquote(t *testing.T, s string, want unquoted) {
	t.Helper()
	text, n, at, e := utf.Unquote(s)
	if got := (unquoted{text, n, at, e}); got != want {
		t.Errorf("Unquote(%q) = %q, %d, %d, %d; want %q, %d, %d, %d", s, text, n, at, e, want.text, want.n, want.at, want.e)
	}
}

func unquotesTo(t *testing.T, s, text string, n int) {
	t.Helper()
	checkUnquote(t, s, unquoted{text: text, n: n})
}

func fails(t *testing.T, s string, e api.Errno, at int) {
	t.Helper()
	checkUnquote(t, s, unquoted{at: at, e: e})
}

// The last four rows of the chapter's examples.
func TestUnquoteExamples(t *testing.T) {
	unquotesTo(t, `"\u00e4\/"z`, "\xc3\xa4\x2f", 10)
	fails(t, `"ab`, api.ErrTrunc, 3)
	unquotesTo(t, `"\uD83D\uDE00"`, "\xf0\x9f\x98\x80", 14)
	fails(t, "", api.ErrTrunc, 0)
	fails(t, `"a\x"`, api.ErrEscape, 3)
	fails(t, `"\ude00"`, api.ErrEscape, 4)
	fails(t, `"\ud83dx"`, api.ErrEscape, 7)
	fails(t, "\"\xc3 \"", api.ErrUtf, 2)
	fails(t, "\"\xc3\x0a", api.ErrUtf, 2)
	fails(t, "\"\xff", api.ErrUtf, 1)
	fails(t, "\"\x0a", api.ErrEscape, 1)
	fails(t, `a`, api.ErrEscape, 0)
}

// P4.3: what the items denote.
func TestUnquote(t *testing.T) {
	unquotesTo(t, `""`, "", 2)
	unquotesTo(t, `""""`, "", 2)
	unquotesTo(t, `"\"\\\/\b\f\n\r\t"`, "\x22\x5c\x2f\x08\x0c\x0a\x0d\x09", 18)
	unquotesTo(t, `"\u0000"`, "\x00", 8)
	unquotesTo(t, `"\u0022\u005C"`, `"\`, 14)
	unquotesTo(t, `"\uABCD\uabcd\uAbCd"`, "\uabcd\uabcd\uabcd", 20)
	unquotesTo(t, `"\ud7FF\uE000"`, "\ud7ff\ue000", 14)
	unquotesTo(t, `"\ud800\udc00"`, "\U00010000", 14)
	unquotesTo(t, `"\uDBFF\uDFFF"`, "\U0010ffff", 14)
	unquotesTo(t, `"\ud800\udc00\u0041"`, "\U00010000A", 20)
	unquotesTo(t, "\"\x7f\u00e4\u20ac\U0010ffff\"", "\x7f\u00e4\u20ac\U0010ffff", 12)
	unquotesTo(t, `"\\u0041"`, `\u0041`, 9)
	unquotesTo(t, `"`+strings.Repeat(`\ud800\udc00x`, 3000)+`"`, strings.Repeat("\U00010000x", 3000), 39002)
}

// P4.3: a byte that cannot follow, by the part of the literal that it is in.
func TestUnquoteRefuses(t *testing.T) {
	fails(t, "\x80\"", api.ErrEscape, 0)
	fails(t, "\xc3\xa4", api.ErrEscape, 0)
	fails(t, ` ""`, api.ErrEscape, 0)
	fails(t, `\"`, api.ErrEscape, 0)
	fails(t, "\"\x00\"", api.ErrEscape, 1)
	fails(t, "\"a\x1f\"", api.ErrEscape, 2)
	fails(t, "\"a\x80\"", api.ErrUtf, 2)
	fails(t, "\"\xbf\"", api.ErrUtf, 1)
	fails(t, "\"\xc0\x80\"", api.ErrUtf, 1)
	fails(t, "\"\xc1\"", api.ErrUtf, 1)
	fails(t, "\"\xf5\"", api.ErrUtf, 1)
	fails(t, "\"\xe0\x9f\"", api.ErrUtf, 2)
	fails(t, "\"\xed\xa0\x80\"", api.ErrUtf, 2)
	fails(t, "\"\xf0\x8f\"", api.ErrUtf, 2)
	fails(t, "\"\xf4\x90\"", api.ErrUtf, 2)
	fails(t, "\"\xf0\x9f\x98\"", api.ErrUtf, 4)
	fails(t, "\"\xe2\x82\"", api.ErrUtf, 3)
	fails(t, "\"\xe2\\n\"", api.ErrUtf, 2)
	fails(t, "\"\xe2\x82\xff\"", api.ErrUtf, 3)
	fails(t, "\"\\\x80\"", api.ErrEscape, 2)
	fails(t, "\"\\\xc3\xa4\"", api.ErrEscape, 2)
	fails(t, `"\U0041"`, api.ErrEscape, 2)
	fails(t, `"\N"`, api.ErrEscape, 2)
	fails(t, `"\0"`, api.ErrEscape, 2)
	fails(t, "\"\\\n\"", api.ErrEscape, 2)
	fails(t, `"\u"`, api.ErrEscape, 3)
	fails(t, `"\u00g0"`, api.ErrEscape, 5)
	fails(t, `"\u004"`, api.ErrEscape, 6)
	fails(t, "\"\\u00\xc3\xa4\"", api.ErrEscape, 5)
	fails(t, `"\u-041"`, api.ErrEscape, 3)
	fails(t, `"\u+041"`, api.ErrEscape, 3)
	fails(t, `"\u0_41"`, api.ErrEscape, 4)
}

// P4.3: surrogates that make no pair.
func TestUnquoteRefusesSurrogates(t *testing.T) {
	fails(t, `"\uDC00"`, api.ErrEscape, 4)
	fails(t, `"\udfff"`, api.ErrEscape, 4)
	fails(t, `"\ud800"`, api.ErrEscape, 7)
	fails(t, "\"\\ud800\xc3\xa4\"", api.ErrEscape, 7)
	fails(t, "\"\\ud800\xff\"", api.ErrEscape, 7)
	fails(t, `"\ud800\n"`, api.ErrEscape, 8)
	fails(t, `"\ud800\\"`, api.ErrEscape, 8)
	fails(t, `"\ud800\U"`, api.ErrEscape, 8)
	fails(t, `"\ud800\u0041"`, api.ErrEscape, 9)
	fails(t, `"\ud800\ue000"`, api.ErrEscape, 9)
	fails(t, `"\ud800\ug"`, api.ErrEscape, 9)
	fails(t, `"\ud800\ud7ff"`, api.ErrEscape, 10)
	fails(t, `"\ud800\udbff"`, api.ErrEscape, 10)
	fails(t, `"\ud800\ud800\udc00"`, api.ErrEscape, 10)
	fails(t, `"\ud800\udcgg"`, api.ErrEscape, 11)
	fails(t, `"\ud800\udc0"`, api.ErrEscape, 12)
	fails(t, `"\udc00\ud800"`, api.ErrEscape, 4)
	fails(t, `"\ud800\udc00\udc00"`, api.ErrEscape, 16)
}

// P4.3: every number of four digits, in both cases.
func TestUnquoteOfEveryNumber(t *testing.T) {
	for r := range rune(0x10000) {
		lower := `"\u` + hexadecimal(r) + `"`
		upper := `"\u` + strings.ToUpper(hexadecimal(r)) + `"`
		switch {
		case isScalar(r):
			unquotesTo(t, lower, encode(r), 8)
			unquotesTo(t, upper, encode(r), 8)
		case r < 0xdc00:
			fails(t, lower, api.ErrEscape, 7)
			fails(t, upper, api.ErrEscape, 7)
		default:
			fails(t, lower, api.ErrEscape, 4)
			fails(t, upper, api.ErrEscape, 4)
		}
	}
}

// P4.3: the pair of every scalar value that has one.
func TestUnquoteOfEveryPair(t *testing.T) {
	for r := rune(0x10000); r <= 0x10ffff; r++ {
		pair := `\u` + hexadecimal(0xd800+(r-0x10000)/0x400) + `\u` + hexadecimal(0xdc00+(r-0x10000)%0x400)
		unquotesTo(t, `"`+pair+`"`, encode(r), 14)
	}
}

// P4.3: every literal above with each of its bytes replaced by every byte.
func TestUnquoteOfChangedLiterals(t *testing.T) {
	for _, literal := range literals {
		for i := range len(literal) {
			for c := range 256 {
				s := literal[:i] + string([]byte{byte(c)}) + literal[i+1:]
				checkUnquote(t, s, wantUnquote(s))
			}
			s := literal[:i] + literal[i+1:]
			checkUnquote(t, s, wantUnquote(s))
		}
	}
}

// P4.3: every pair of bytes after the quotation mark.
func TestUnquoteOfEveryStart(t *testing.T) {
	for i := range 1 << 16 {
		s := string([]byte{'"', byte(i >> 8), byte(i)})
		checkUnquote(t, s, wantUnquote(s))
		checkUnquote(t, s+`"`, wantUnquote(s+`"`))
	}
}

// eachString calls use with every string of at most size bytes of the alphabet, as long as use returns true for the string without its last byte.
func eachString(s, alphabet string, size int, use func(s string) bool) {
	if !use(s) || len(s) == size {
		return
	}
	for i := range len(alphabet) {
		eachString(s+alphabet[i:i+1], alphabet, size, use)
	}
}

// P4.3 and P4.7: all short strings of bytes that matter, and in each the first byte that cannot follow.
func TestUnquoteOfShortStrings(t *testing.T) {
	check := func(s string) bool {
		checkUnquote(t, s, wantUnquote(s))
		return isLiteralStart(s)
	}
	eachString("", "\"\\/ubn0\x1f \x7f", 6, check)
	eachString("", "\"a\x80\x8f\x90\x9f\xa0\xbf\xc1\xc2\xe0\xe1\xed\xf0\xf1\xf4\xf5\xff", 5, check)
	eachString("\"\\u", "\"07dDcCfg\\", 8, check)
	eachString("\"\\ud", "8bcCf0u\\\"", 11, check)
	eachString("\"\\uDBff\\", "uUdDcfbn0G\"", 13, check)
}

// P4.4: the short literal of every scalar value, and of concatenations, is read again, whatever follows it.
func TestUnquoteInvertsQuote(t *testing.T) {
	check := func(s, tail string) {
		q, e := utf.Quote(s)
		if e != api.OK {
			t.Errorf("Quote(%q): %d", s, e)
		}
		unquotesTo(t, q+tail, s, len(q))
	}
	whole := ""
	eachScalar(func(r rune) { check(encode(r), "") })
	for _, r := range edges {
		whole += encode(r) + "\""
		for c := range rune(0x80) {
			check(whole+encode(c), "")
			check(encode(c)+encode(r), "\\")
		}
		for _, tail := range tails {
			check(whole, tail)
			check(encode(r), tail)
		}
	}
	for _, tail := range tails {
		check("", tail)
	}
}

// P4.4: every item that denotes a scalar value is at least as long as that of the short literal.
func TestQuoteIsShortest(t *testing.T) {
	eachScalar(func(r rune) {
		q, _ := utf.Quote(encode(r))
		for _, other := range otherItems(r) {
			literal := `"` + other + `"`
			unquotesTo(t, literal, encode(r), len(literal))
			if len(q) > len(literal) {
				t.Errorf("Quote(%q) = %q, which is longer than %q", encode(r), q, literal)
			}
		}
	})
}

func otherItems(r rune) []string {
	var l []string
	if r >= 0x20 && r != '"' && r != '\\' {
		l = append(l, encode(r))
	}
	for letter, text := range letterText {
		if text == encode(r) {
			l = append(l, `\`+string(rune(letter)))
		}
	}
	if r < 0x10000 {
		return append(l, `\u`+hexadecimal(r), `\u`+strings.ToUpper(hexadecimal(r)))
	}
	return append(l, `\u`+hexadecimal(0xd800+(r-0x10000)/0x400)+`\u`+hexadecimal(0xdc00+(r-0x10000)%0x400))
}

// P4.4 for texts of several items.
func TestQuoteOfLiteralTextIsShortest(t *testing.T) {
	for _, literal := range literals {
		text, _, _, _ := utf.Unquote(literal)
		if q, e := utf.Quote(text); e != api.OK || len(q) > len(literal) {
			t.Errorf("Quote(%q) = %q, %d; want at most the length of %q", text, q, e, literal)
		}
	}
}

// P4.5: proper prefixes of literals.
func TestUnquoteOfPrefixes(t *testing.T) {
	for _, literal := range literals {
		for n := range len(literal) {
			fails(t, literal[:n], api.ErrTrunc, n)
		}
	}
}

// P4.5: bytes after literals.
func TestUnquoteIgnoresTails(t *testing.T) {
	for _, literal := range literals {
		want := wantUnquote(literal)
		if want.n != len(literal) {
			t.Errorf("%q is no literal", literal)
		}
		for _, tail := range tails {
			checkUnquote(t, literal+tail, want)
		}
		for c := range 256 {
			checkUnquote(t, literal+string([]byte{byte(c)}), want)
		}
	}
}

// P4.7: the bytes before an error, alone, lack only their end; with the byte at the offset, the error is the same whatever follows.
func TestOffsetOfErrorIsMinimal(t *testing.T) {
	for _, literal := range literals {
		for i := range len(literal) {
			for c := range 256 {
				s := literal[:i] + string([]byte{byte(c)}) + literal[i+1:]
				_, _, at, e := utf.Unquote(s)
				if e != api.ErrUtf && e != api.ErrEscape {
					continue
				}
				fails(t, s[:at], api.ErrTrunc, at)
				fails(t, s[:at+1], e, at)
				if !isLiteralStart(s[:at]) || isLiteralStart(s[:at+1]) {
					t.Errorf("Unquote(%q) fails at %d, which is not minimal", s, at)
				}
			}
		}
	}
}

// The literals above are JSON, so another reader must agree on what they denote.
func TestLiteralsAreJson(t *testing.T) {
	for _, literal := range literals {
		var want string
		if err := json.Unmarshal([]byte(literal), &want); err != nil {
			t.Errorf("%q: %v", literal, err)
		}
		unquotesTo(t, literal, want, len(literal))
	}
}
