package utf_test

import (
	"math"
	"strings"
	"testing"

	"accordion/api"
	"accordion/utf"
)

// notScalar holds the edges of the numbers that are not scalar values.
var notScalar = []rune{math.MinInt32, math.MinInt32 + 0x41, -0x10000, -0x80, -2, -1, 0x110000, 0x110041, 0x1fffff, 0x200000, math.MaxInt32}

// edges holds the least and the greatest scalar value of every length, and the neighbours of the surrogates.
var edges = []rune{0, 1, 0x41, 0x7f, 0x80, 0xe4, 0x7ff, 0x800, 0x20ac, 0xd7ff, 0xe000, 0xfffd, 0xfffe, 0xffff, 0x10000, 0x1f600, 0xfffff, 0x100000, 0x10ffff}

// invalid holds strings of which no encoding is a prefix, each with a different fault.
var invalid = []string{
	"", "\x80", "\x82\xac", "\xbf", "\xc0", "\xc0\x80", "\xc0\xaf", "\xc1\xbf", "\xc3", "\xc3\x41", "\xc3\xc3", "\xc3\x22",
	"\xe0", "\xe0\x80", "\xe0\x80\x80", "\xe0\x9f\xbf", "\xe2\x82", "\xe2\x82\x41", "\xe2\x41\xac", "\xe2\x82\xe2",
	"\xed\xa0", "\xed\xa0\x80", "\xed\xbf\xbf", "\xed\xb0\x80", "\xef\xbf", "\xef\xbf\x41",
	"\xf0", "\xf0\x80\x80\x80", "\xf0\x8f\xbf\xbf", "\xf0\x9f\x98", "\xf0\x9f\x98\x41", "\xf0\x9f\x41\x80",
	"\xf4\x90\x80\x80", "\xf4\x90", "\xf5\x80\x80\x80", "\xf8\x88\x80\x80\x80", "\xfc\x84\x80\x80\x80\x80", "\xfe", "\xff", "\xff\xff\xff\xff",
}

func eachScalar(use func(r rune)) {
	for r := rune(0); r <= 0x10ffff; r++ {
		if isScalar(r) {
			use(r)
		}
	}
}

func checkNext(t *testing.T, s string, want rune, wantN int, wantIs bool) {
	t.Helper()
	if r, n, is := utf.Next(s); r != want || n != wantN || is != wantIs {
		t.Errorf("Next(% x) = %x, %d, %t; want %x, %d, %t", s, r, n, is, want, wantN, wantIs)
	}
}

func checkPut(t *testing.T, r rune, want string, wantIs bool) {
	t.Helper()
	if s, is := utf.Put(r); s != want || is != wantIs {
		t.Errorf("Put(%x) = % x, %t; want % x, %t", r, s, is, want, wantIs)
	}
}

func checkValid(t *testing.T, s string, want bool) {
	t.Helper()
	if is := utf.Valid(s); is != want {
		t.Errorf("Valid(% x) = %t; want %t", s, is, want)
	}
}

func checkQuote(t *testing.T, s, want string, wantErr api.Errno) {
	t.Helper()
	if q, e := utf.Quote(s); q != want || e != wantErr {
		t.Errorf("Quote(%q) = %q, %d; want %q, %d", s, q, e, want, wantErr)
	}
}

// The first two rows of the chapter's examples; the others are in TestUnquoteExamples.
func TestExamples(t *testing.T) {
	checkNext(t, "\xe2\x82\xac\x41", 0x20ac, 3, true)
	checkNext(t, "\xe2\x82", 0, 0, false)
	checkNext(t, "\x80", 0, 0, false)
	checkPut(t, 0xe4, "\xc3\xa4", true)
	checkPut(t, 0xdfff, "", false)
	checkQuote(t, "a\"b\x0a\x1f", `"a\"b\n\u001f"`, api.OK)
	checkQuote(t, "\xc3", "", api.ErrUtf)
}

// P4.1: every scalar value, whatever follows its encoding.
func TestNextAndPutOfEveryScalar(t *testing.T) {
	eachScalar(func(r rune) {
		c := encode(r)
		checkPut(t, r, c, true)
		checkNext(t, c, r, len(c), true)
		checkNext(t, c+"\x80", r, len(c), true)
		checkValid(t, c, true)
	})
	for _, r := range edges {
		for _, after := range append(invalid, "a", "\u20ac", "\x00") {
			checkNext(t, encode(r)+after, r, len(encode(r)), true)
		}
	}
}

// P4.1: surrogates, negative numbers and numbers that are too great.
func TestPutRefuses(t *testing.T) {
	for r := rune(0xd800); r <= 0xdfff; r++ {
		checkPut(t, r, "", false)
	}
	for _, r := range notScalar {
		checkPut(t, r, "", false)
	}
}

// P4.1: incomplete, overlong, surrogate and too great encodings, and bytes that are in no encoding.
func TestNextRefuses(t *testing.T) {
	for _, s := range invalid {
		checkNext(t, s, 0, 0, false)
	}
	for s := range allForms().incomplete {
		checkNext(t, s, 0, 0, false)
		checkNext(t, s+"a", 0, 0, false)
		checkNext(t, s+"\xc3\xa4", 0, 0, false)
		checkValid(t, s, false)
	}
}

// P4.1: every pair of bytes, with tails at the edges of the ranges of later bytes.
func TestNextOfEveryStart(t *testing.T) {
	tails := []string{"", "\x7f", "\x80", "\xbf", "\xc0", "\x80\x80", "\xbf\xbf", "\x80\x7f", "\xbf\xc0", "a\x80"}
	for i := range 1 << 16 {
		for _, tail := range tails {
			s := string([]byte{byte(i >> 8), byte(i)}) + tail
			r, n, is := wantNext(s)
			checkNext(t, s, r, n, is)
			checkValid(t, s, wantValid(s))
		}
	}
}

// P4.1: a fault anywhere makes a string invalid.
func TestValid(t *testing.T) {
	checkValid(t, "", true)
	checkValid(t, "\x00", true)
	checkValid(t, "plain", true)
	whole := ""
	for _, r := range edges {
		whole += encode(r)
		checkValid(t, whole, true)
	}
	for _, s := range invalid[1:] {
		checkValid(t, s, false)
		checkValid(t, "a"+s, false)
		checkValid(t, s+"a", false)
		checkValid(t, whole+s+whole, false)
	}
}

// P4.2: every byte and every scalar value.
func TestQuoteOfEveryScalar(t *testing.T) {
	eachScalar(func(r rune) {
		checkQuote(t, encode(r), wantQuote(encode(r)), api.OK)
	})
	for c := range 0x80 {
		s := "a" + string([]byte{byte(c)}) + "\u20ac"
		checkQuote(t, s, wantQuote(s), api.OK)
	}
}

// P4.2: the literals in full.
func TestQuote(t *testing.T) {
	checkQuote(t, "", `""`, api.OK)
	checkQuote(t, "plain text", `"plain text"`, api.OK)
	checkQuote(t, `"\/`, `"\"\\/"`, api.OK)
	checkQuote(t, "\x08\x0c\x0a\x0d\x09", `"\b\f\n\r\t"`, api.OK)
	checkQuote(t, "\x00\x01\x07\x0b\x0e\x0f\x10\x1a\x1f\x20", `"\u0000\u0001\u0007\u000b\u000e\u000f\u0010\u001a\u001f "`, api.OK)
	checkQuote(t, "\x7f\u00e4\u2028\ufffd\U0001f600", "\"\x7f\u00e4\u2028\ufffd\U0001f600\"", api.OK)
	checkQuote(t, `\u0041`, `"\\u0041"`, api.OK)
	checkQuote(t, strings.Repeat("\x01\"", 5000), `"`+strings.Repeat(`\u0001\"`, 5000)+`"`, api.OK)
}

// P4.2: a string that is not valid UTF-8 has no literal, wherever the fault is.
func TestQuoteRefuses(t *testing.T) {
	for _, s := range invalid[1:] {
		checkQuote(t, s, "", api.ErrUtf)
		checkQuote(t, "a\n"+s, "", api.ErrUtf)
		checkQuote(t, s+"\u20ac", "", api.ErrUtf)
		checkQuote(t, "\ufffd"+s+"\"", "", api.ErrUtf)
	}
}

// P4.6: Next splits a concatenation of encodings into the scalar values.
func TestNextSplitsConcatenations(t *testing.T) {
	var all strings.Builder
	eachScalar(func(r rune) {
		c, _ := utf.Put(r)
		all.WriteString(c)
	})
	rest := all.String()
	checkValid(t, rest, true)
	eachScalar(func(want rune) {
		r, n, is := utf.Next(rest)
		if r != want || !is {
			t.Fatalf("Next at %x = %x, %d, %t", want, r, n, is)
		}
		rest = rest[n:]
	})
	checkNext(t, rest, 0, 0, false)
	for _, a := range edges {
		for _, b := range edges {
			s, _ := utf.Put(a)
			tail, _ := utf.Put(b)
			checkNext(t, s+tail, a, len(s), true)
			checkNext(t, (s + tail)[len(s):], b, len(tail), true)
		}
	}
}

// P4.6: the encodings of all scalar values are increasing.
func TestOrderOfEncodings(t *testing.T) {
	last := ""
	eachScalar(func(r rune) {
		c, _ := utf.Put(r)
		if last >= c {
			t.Errorf("the encoding of %x is not greater than the one before it", r)
		}
		last = c
	})
}
