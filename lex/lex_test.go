package lex_test

import (
	"math"
	"math/big"
	"slices"
	"strconv"
	"strings"
	"testing"

	"accordion/api"
	"accordion/lex"
)

// tokens holds inputs of tokens of every kind.
var tokens = []string{
	"{", "}", "[", "]", ",", ":", "null", "false", "true",
	"0", "-0", "1", "9", "10", "-1", "-12", "1234567890", "2147483648", "-2147483649",
	"9223372036854775807", "9223372036854775808", "-9223372036854775808", "18446744073709551615", "12345678901234567890",
	`""`, `"a"`, `"null"`, `"\u00e4\/"`, `"\uD83D\uDE00"`, `"\"\\\n"`, "\"\u00e4\u20ac\"", `"{ [1, 2] : \t"`, `"a\u0000"`,
}

// faults holds inputs that no token starts with.
var faults = []string{
	"n", "nul", "nulx", "Null", "fals", "falsy", "f ", "tru", "TRUE", "t\"", "nu ll",
	"-", "--1", "+1", "- 1", "-a", ".5", "-.5", "1.", "1.e5", "1.-", "0.", "1e", "1E+", "1e-x", "1.5e", "0e", "1e 5", "1. 5", "99999999999999999999.",
	"1.5", "-0.0", "1e5", "1E-7", "2.5e+10", "0e0", "1.0", "18446744073709551616", "-9223372036854775809", "100000000000000000000", "-18446744073709551615", "9223372036854775807e0",
	`"`, `"a`, `"a\`, `"a\x"`, "\"\n\"", "\"\xff\"", "\"\xc3", `"\ud800"`, `"\u12`,
	"a", "'a'", "/", "\\", "\x00", "\x0b", "\x0c", "\x1f", "\x7f", "\x80", "\xc3\xa4", "\xff", "\ufeff", "\u00a0", ";", "_", "(", "NaN", "Infinity",
}

// texts holds several tokens each, with white space of every form.
var texts = []string{
	"", " ", "\t\n\r ", "{}", "[]", `{"a":1}`, ` { "a" : 1 } `, "[1,2]", "[ 1\n,\t-2\r]", `{"k": [true, -3]}`, "[[],{},[{}]]",
	"1 2", "null,false:true", "nullfalsetrue", "01", "-01", "00", `"a""b"`, `1"a"2`, "[1,]", "]}{[", ",,::", `{"b": [1, -2], "a": "x"}`,
	"0-0", "1-2", "-1-1", "true1", "1null", "[18446744073709551615,-9223372036854775808]", "\"\\u0041\"\r\n\"\u20ac\"",
}

func str(c byte) string { return string([]byte{c}) }

func checkNext(t *testing.T, s string, at int, want lex.Token, wantE api.Errno) {
	t.Helper()
	if got, e := lex.Next(s, at); got != want || e != wantE {
		t.Errorf("Next(%q, %d) = %+v, %d; want %+v, %d", short(s), at, got, e, want, wantE)
	}
}

func yields(t *testing.T, s string, at int, want lex.Token) {
	t.Helper()
	checkNext(t, s, at, want, api.OK)
}

func fails(t *testing.T, s string, at int, e api.Errno, wrong int) {
	t.Helper()
	checkNext(t, s, at, lex.Token{From: wrong, To: wrong}, e)
}

// isAsDescribed compares Next at every offset of a string with the chapter's description.
func isAsDescribed(t *testing.T, s string) {
	t.Helper()
	for at := -1; at <= len(s)+1; at++ {
		want, e := wantNext(s, at)
		checkNext(t, s, at, want, e)
	}
}

func checkAll(t *testing.T, s string, want []lex.Token, wantAt int, wantE api.Errno) {
	t.Helper()
	if l, at, e := lex.All(s); !slices.Equal(l, want) || at != wantAt || e != wantE {
		t.Errorf("All(%q) = %d tokens, %d, %d; want %d tokens, %d, %d", short(s), len(l), at, e, len(want), wantAt, wantE)
	}
}

// short keeps a message readable if the input is long.
func short(s string) string {
	if len(s) > 100 {
		return s[:20] + ".. " + strconv.Itoa(len(s)) + " bytes"
	}
	return s
}

// The table of the chapter's section 'Examples'.
func TestExamples(t *testing.T) {
	yields(t, ` {"a":1}`, 0, lex.Token{Kind: lex.Open, From: 1, To: 2})
	yields(t, ` {"a":1}`, 2, lex.Token{Kind: lex.Text, From: 2, To: 5, Text: "a"})
	yields(t, ` {"a":1}`, 5, lex.Token{Kind: lex.Colon, From: 5, To: 6})
	yields(t, ` {"a":1}`, 8, lex.Token{Kind: lex.End, From: 8, To: 8})
	yields(t, "-12 ", 0, lex.Token{Kind: lex.Int, From: 0, To: 3, N: -12})
	yields(t, "18446744073709551615", 0, lex.Token{Kind: lex.Uint, From: 0, To: 20, U: 1<<64 - 1})
	yields(t, "-0", 0, lex.Token{Kind: lex.Int, From: 0, To: 2})
	fails(t, "true", 1, api.ErrJson, 1)
	yields(t, "01", 0, lex.Token{Kind: lex.Int, From: 0, To: 1})
	fails(t, "1.5", 0, api.ErrNumber, 0)
	fails(t, "1.", 0, api.ErrJson, 2)
	fails(t, "1e", 0, api.ErrJson, 2)
	fails(t, "-", 0, api.ErrJson, 1)
	fails(t, "18446744073709551616", 0, api.ErrNumber, 0)
	fails(t, "nul", 0, api.ErrJson, 3)
	fails(t, "nulx", 0, api.ErrJson, 3)
	fails(t, `"a`, 0, api.ErrTrunc, 2)
	fails(t, "a", 0, api.ErrJson, 0)
	fails(t, "a", 2, api.ErrRange, 0)
	checkAll(t, "[1,]", []lex.Token{{Kind: lex.List, From: 0, To: 1}, {Kind: lex.Int, From: 1, To: 2, N: 1}, {Kind: lex.Comma, From: 2, To: 3}, {Kind: lex.Over, From: 3, To: 4}}, 0, api.OK)
}

// P10.1: the numbers of the kinds.
func TestKinds(t *testing.T) {
	for i, kind := range []int{lex.End, lex.Open, lex.Close, lex.List, lex.Over, lex.Comma, lex.Colon, lex.Null, lex.False, lex.True, lex.Int, lex.Uint, lex.Text} {
		if kind != i {
			t.Errorf("the kind %d is %d", i, kind)
		}
	}
}

// P10.1: tokens with a single spelling.
func TestNextOfWords(t *testing.T) {
	for word, kind := range wordKinds {
		for _, after := range []string{"", " ", "x", "1", `"`, "\x80", word} {
			yields(t, word+after, 0, lex.Token{Kind: kind, From: 0, To: len(word)})
		}
		for n := 1; n < len(word); n++ {
			fails(t, word[:n], 0, api.ErrJson, n)
			fails(t, "  "+word[:n], 1, api.ErrJson, 2+n)
			fails(t, word[:n]+" "+word[n:], 0, api.ErrJson, n)
			fails(t, word[:n]+strings.ToUpper(word[n:]), 0, api.ErrJson, n)
		}
	}
}

// P10.1: an offset out of the string, at its end and in white space.
func TestNextAtOffsets(t *testing.T) {
	for _, s := range []string{"", " ", "1", " \n1 ", `"a`} {
		for _, at := range []int{math.MinInt, math.MinInt32, -2, -1, len(s) + 1, len(s) + 2, math.MaxInt32, math.MaxInt} {
			fails(t, s, at, api.ErrRange, 0)
		}
		yields(t, s, len(s), lex.Token{Kind: lex.End, From: len(s), To: len(s)})
	}
	for at := range 5 {
		yields(t, " \t\n\r5", at, lex.Token{Kind: lex.Int, From: 4, To: 5, N: 5})
		yields(t, " \t\n\r", at, lex.Token{Kind: lex.End, From: 4, To: 4})
		fails(t, " \t\n\r\x0b5", at, api.ErrJson, 4)
	}
}

// P10.1: integers, on both sides of the limits.
func TestNextOfIntegers(t *testing.T) {
	yields(t, "9223372036854775807", 0, lex.Token{Kind: lex.Int, To: 19, N: math.MaxInt64})
	yields(t, "9223372036854775808", 0, lex.Token{Kind: lex.Uint, To: 19, U: 1 << 63})
	yields(t, "-9223372036854775808", 0, lex.Token{Kind: lex.Int, To: 20, N: math.MinInt64})
	fails(t, "-9223372036854775809", 0, api.ErrNumber, 0)
	fails(t, " 18446744073709551616,", 0, api.ErrNumber, 1)
	fails(t, "99999999999999999999", 0, api.ErrNumber, 0)
	fails(t, "-99999999999999999999", 0, api.ErrNumber, 0)
	fails(t, "36893488147419103232", 0, api.ErrNumber, 0)
	fails(t, "340282366920938463463374607431768211456", 0, api.ErrNumber, 0)
	yields(t, "00", 0, lex.Token{Kind: lex.Int, To: 1})
	yields(t, "-01", 0, lex.Token{Kind: lex.Int, To: 2})
	yields(t, "1-2", 0, lex.Token{Kind: lex.Int, To: 1, N: 1})
	yields(t, "12x", 0, lex.Token{Kind: lex.Int, To: 2, N: 12})
	yields(t, "12_000", 0, lex.Token{Kind: lex.Int, To: 2, N: 12})
	yields(t, "0x10", 0, lex.Token{Kind: lex.Int, To: 1})
	yields(t, "5\xff", 0, lex.Token{Kind: lex.Int, To: 1, N: 5})
	yields(t, "123", 1, lex.Token{Kind: lex.Int, From: 1, To: 3, N: 23})
}

// P10.1: numbers that are not integers, and where they end.
func TestNextOfOtherNumbers(t *testing.T) {
	for _, s := range []string{"1.5", "-1.5", "0.0", "-0.0", "1.0", "1e0", "1E5", "1e+5", "1e-5", "0e0", "10.25E+07", "1.5x", "1.5.", "1.5-", "1e5e", "1e5.", "123456789012345678901.5"} {
		fails(t, s, 0, api.ErrNumber, 0)
		fails(t, "[\n"+s, 1, api.ErrNumber, 2)
	}
}

// P10.1: incomplete numbers; they come before numbers out of range.
func TestNextOfIncompleteNumbers(t *testing.T) {
	for _, s := range []string{"-", "1.", "-0.", "1e", "1E", "0e+", "1e-", "1.5e", "1.5E+", "18446744073709551616.", "18446744073709551616e", "-9223372036854775809e-"} {
		for _, after := range []string{"", " ", " 1", "x", ".", "e", "]", "\"", "\x80", "/", ":"} {
			fails(t, s+after, 0, api.ErrJson, len(s))
			fails(t, "  "+s+after, 0, api.ErrJson, 2+len(s))
		}
	}
	fails(t, "--1", 0, api.ErrJson, 1)
	fails(t, "-+1", 0, api.ErrJson, 1)
	fails(t, "1.-5", 0, api.ErrJson, 2)
	fails(t, "1.e5", 0, api.ErrJson, 2)
	fails(t, "1e+-5", 0, api.ErrJson, 3)
	fails(t, "1e.5", 0, api.ErrJson, 2)
	fails(t, "+1", 0, api.ErrJson, 0)
	fails(t, ".5", 0, api.ErrJson, 0)
}

// P10.1: literals, and the errors of utf.Unquote within a string.
func TestNextOfLiterals(t *testing.T) {
	yields(t, ` "\u00e4\/"z`, 0, lex.Token{Kind: lex.Text, From: 1, To: 11, Text: "\u00e4/"})
	yields(t, `""`, 0, lex.Token{Kind: lex.Text, To: 2})
	yields(t, `"a","`, 0, lex.Token{Kind: lex.Text, To: 3, Text: "a"})
	fails(t, `"a"`, 2, api.ErrTrunc, 3)
	fails(t, ` "ab`, 0, api.ErrTrunc, 4)
	fails(t, `["a\x"]`, 1, api.ErrEscape, 4)
	fails(t, `  "\ude00"`, 0, api.ErrEscape, 6)
	fails(t, "1 \"\xc3 \"", 1, api.ErrUtf, 4)
	fails(t, "  \"\xff\"", 0, api.ErrUtf, 3)
	fails(t, "  \"\n\"", 0, api.ErrEscape, 3)
}

// P10.1: inputs of every kind, at every offset.
func TestNextOfSamples(t *testing.T) {
	for _, l := range [][]string{tokens, faults, texts} {
		for _, s := range l {
			isAsDescribed(t, s)
			isAsDescribed(t, " \n"+s+"\t ")
			isAsDescribed(t, s+s)
		}
	}
}

// P10.1: every sample with each of its bytes replaced by every byte.
func TestNextOfChangedSamples(t *testing.T) {
	for _, s := range slices.Concat(tokens, faults, texts) {
		for i := range len(s) {
			for c := range 256 {
				changed := s[:i] + str(byte(c)) + s[i+1:]
				want, e := wantNext(changed, 0)
				checkNext(t, changed, 0, want, e)
			}
		}
	}
}

// P10.1: every pair of bytes.
func TestNextOfEveryStart(t *testing.T) {
	for i := range 1 << 16 {
		isAsDescribed(t, string([]byte{byte(i >> 8), byte(i)}))
	}
}

// eachString calls use with every string of at most size bytes of the alphabet.
func eachString(s, alphabet string, size int, use func(s string)) {
	use(s)
	if len(s) == size {
		return
	}
	for i := range len(alphabet) {
		eachString(s+alphabet[i:i+1], alphabet, size, use)
	}
}

// P10.1: all short strings of the bytes of numbers and of words.
func TestNextOfShortStrings(t *testing.T) {
	check := func(s string) {
		want, e := wantNext(s, 0)
		checkNext(t, s, 0, want, e)
	}
	eachString("", "-+019.eE x", 5, check)
	eachString("1", "-0.e", 7, check)
	eachString("", "nulfase tr", 5, check)
	eachString("fal", "els", 6, check)
}

// P10.2: the limit comes before all other errors.
func TestAllLimit(t *testing.T) {
	const most = 1 << 20
	comma := func(i int) lex.Token { return lex.Token{Kind: lex.Comma, From: i, To: i + 1} }
	var commas []lex.Token
	for i := range most {
		commas = append(commas, comma(i))
	}
	checkAll(t, strings.Repeat(",", most), commas, 0, api.OK)
	checkAll(t, strings.Repeat(",", most+1), nil, 0, api.ErrLimit)
	checkAll(t, strings.Repeat(" ", most), nil, 0, api.OK)
	checkAll(t, strings.Repeat(" ", most+1), nil, 0, api.ErrLimit)
	checkAll(t, strings.Repeat(" ", most-1)+",", []lex.Token{comma(most - 1)}, 0, api.OK)
	checkAll(t, strings.Repeat(" ", most-1)+"x", nil, most-1, api.ErrJson)
	checkAll(t, "x"+strings.Repeat(" ", most), nil, 0, api.ErrLimit)
	checkAll(t, strings.Repeat("1", most), nil, 0, api.ErrNumber)
	long := strings.Repeat("a", most-2)
	checkAll(t, `"`+long+`"`, []lex.Token{{Kind: lex.Text, To: most, Text: long}}, 0, api.OK)
	checkAll(t, `"`+long+`a`, nil, most, api.ErrTrunc)
	checkAll(t, `"`+long+`a"`, nil, 0, api.ErrLimit)
}

// P10.1: Next has no limit.
func TestNextOfLongStrings(t *testing.T) {
	const many = 1<<20 + 5
	yields(t, strings.Repeat(" ", many)+"7", 0, lex.Token{Kind: lex.Int, From: many, To: many + 1, N: 7})
	fails(t, strings.Repeat("1", many), 0, api.ErrNumber, 0)
	fails(t, strings.Repeat("1", many)+".", 0, api.ErrJson, many+1)
	long := strings.Repeat("a", many)
	yields(t, `"`+long+`"`, 0, lex.Token{Kind: lex.Text, To: many + 2, Text: long})
}

// P10.2: all tokens, or the first error.
func TestAll(t *testing.T) {
	checkAll(t, ` {"a" : 300}`, []lex.Token{
		{Kind: lex.Open, From: 1, To: 2}, {Kind: lex.Text, From: 2, To: 5, Text: "a"}, {Kind: lex.Colon, From: 6, To: 7},
		{Kind: lex.Int, From: 8, To: 11, N: 300}, {Kind: lex.Close, From: 11, To: 12},
	}, 0, api.OK)
	checkAll(t, "01", []lex.Token{{Kind: lex.Int, From: 0, To: 1}, {Kind: lex.Int, From: 1, To: 2, N: 1}}, 0, api.OK)
	checkAll(t, "", nil, 0, api.OK)
	checkAll(t, "\n ", nil, 0, api.OK)
	checkAll(t, "[1, 2e5]", nil, 4, api.ErrNumber)
	checkAll(t, "[1, 2e]", nil, 6, api.ErrJson)
	checkAll(t, `{"a":nul}`, nil, 8, api.ErrJson)
	checkAll(t, `["a", "b`, nil, 8, api.ErrTrunc)
	checkAll(t, "1.5 x", nil, 0, api.ErrNumber)
	checkAll(t, "x 1.5", nil, 0, api.ErrJson)
	for _, s := range slices.Concat(tokens, faults, texts) {
		for _, before := range []string{"", " ", "[1, ", `"a"`, "1", "\n{\t"} {
			for _, after := range []string{"", " ", "0", `:"`, "]", "x"} {
				whole := before + s + after
				l, at, e := wantAll(whole)
				checkAll(t, whole, l, at, e)
			}
		}
	}
}

// P10.2: each token, and the error, is that of Next where the previous token ends.
func TestAllFollowsNext(t *testing.T) {
	for _, s := range slices.Concat(tokens, faults, texts) {
		s = "[" + s + " , " + s + "]"
		l, wrong, wantE := lex.All(s)
		at := 0
		for i := 0; ; i++ {
			x, e := lex.Next(s, at)
			if e != api.OK {
				if e != wantE || x.From != wrong || l != nil {
					t.Errorf("All(%q) = %v, %d, %d; Next(.., %d) fails at %d with %d", s, l, wrong, wantE, at, x.From, e)
				}
				break
			}
			if x.Kind == lex.End {
				if i != len(l) || wrong != 0 || wantE != api.OK {
					t.Errorf("All(%q) = %v, %d, %d; Next finds %d tokens", s, l, wrong, wantE, i)
				}
				break
			}
			if wantE == api.OK && (i >= len(l) || l[i] != x) {
				t.Errorf("All(%q) = %v; the token %d is %v", s, l, i, x)
				break
			}
			at = x.To
		}
	}
}

// R2: a result depends on nothing but the arguments, and is new memory.
func TestAllResultsAreNew(t *testing.T) {
	for _, s := range texts {
		want, wantAt, wantE := wantAll(s)
		first, _, _ := lex.All(s)
		clear(first[:cap(first)])
		checkAll(t, s, want, wantAt, wantE)
		second, _, _ := lex.All(s)
		clear(first[:cap(first)])
		if !slices.Equal(second, want) {
			t.Errorf("two results of All(%q) share memory", s)
		}
	}
}

// P10.3: tokens with white space in between, each of which yields itself.
func TestTokensAlone(t *testing.T) {
	for _, s := range texts {
		l, _, e := lex.All(s)
		if e != api.OK {
			t.Errorf("All(%q): %d", s, e)
		}
		end := 0
		for _, x := range append(l, lex.Token{From: len(s), To: len(s)}) {
			if x.From < end || x.To < x.From || x.To > len(s) || skipWhite(s[:x.From], end) != x.From {
				t.Errorf("All(%q): %v follows the offset %d", s, x, end)
				break
			}
			end = x.To
			for _, white := range []string{"", " ", "\t", "\n", "\r", " \r\n\t "} {
				yields(t, white+s[x.From:x.To], 0, moved(x, len(white)-x.From))
			}
		}
	}
}

// moved returns a token with other offsets.
func moved(x lex.Token, by int) lex.Token {
	x.From += by
	x.To += by
	return x
}

// P10.4: other white space, where the tokens are the same.
func TestWhiteSpaceBetweenTokens(t *testing.T) {
	for _, white := range []string{" ", "\t", "\n", "\r", "  ", " \t\n\r", "\n\n\r \t\t"} {
		at, want := 0, []lex.Token(nil)
		var s strings.Builder
		for _, token := range tokens {
			s.WriteString(white)
			x, e := lex.Next(token, 0)
			if e != api.OK {
				t.Errorf("Next(%q, 0): %d", token, e)
			}
			want = append(want, moved(x, at+len(white)))
			at += len(white) + len(token)
			s.WriteString(token)
		}
		checkAll(t, s.String(), want, 0, api.OK)
		checkAll(t, s.String()+white, want, 0, api.OK)
		checkAll(t, s.String()+white+"x", nil, at+len(white), api.ErrJson)
	}
}

// numbers holds integers around the powers of 2 and of 10, as far as the kinds of numbers reach.
func numbers() []*big.Int {
	var l []*big.Int
	for _, base := range []int64{2, 10} {
		for power := int64(0); power <= 64; power++ {
			n := new(big.Int).Exp(big.NewInt(base), big.NewInt(power), nil)
			for d := int64(-3); d <= 3; d++ {
				near := new(big.Int).Add(n, big.NewInt(d))
				l = append(l, near, new(big.Int).Neg(near))
			}
		}
	}
	return l
}

// inRange reports whether an integer is from -2^63 to 2^64 - 1.
func inRange(n *big.Int) bool {
	return n.IsInt64() || n.IsUint64()
}

// P10.5: the digits of an integer.
func TestDigitsOfIntegers(t *testing.T) {
	for _, n := range numbers() {
		s := n.String()
		switch {
		case n.IsInt64():
			yields(t, s, 0, lex.Token{Kind: lex.Int, To: len(s), N: n.Int64()})
		case n.IsUint64():
			yields(t, s, 0, lex.Token{Kind: lex.Uint, To: len(s), U: n.Uint64()})
		default:
			fails(t, s, 0, api.ErrNumber, 0)
		}
	}
}

// P10.5: one digit more than those of an integer.
func TestOneMoreDigit(t *testing.T) {
	out := 0
	for _, n := range numbers() {
		if !inRange(n) || n.Sign() == 0 {
			continue
		}
		for digit := range "0123456789" {
			s := n.String() + strconv.Itoa(digit)
			more, _ := new(big.Int).SetString(s, 10)
			if inRange(more) {
				want, e := wantNext(s, 0)
				checkNext(t, s, 0, want, e)
				continue
			}
			out++
			fails(t, s, 0, api.ErrNumber, 0)
		}
	}
	if out < 100 {
		t.Errorf("only %d numbers are out of range", out)
	}
}
