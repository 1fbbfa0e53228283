package path_test

import (
	"math"
	"reflect"
	"slices"
	"strings"
	"testing"

	"accordion/api"
	"accordion/path"
)

func index(n int) api.Step           { return api.Step{At: n} }
func named(k string) api.Step        { return api.Step{Key: k, ByKey: true} }
func steps(p ...api.Step) []api.Step { return p }

// repeated is a path of n equal steps.
func repeated(n int, step api.Step) []api.Step {
	return slices.Repeat(steps(step), n)
}

// validSteps holds steps of both forms, up to the limits, with every form of an item in the literal of a key.
func validSteps() []api.Step {
	l := steps(index(0), index(1), index(9), index(10), index(64), index(100), index(1<<20), index(99999999), index(999999998), index(999999999))
	for _, k := range []string{
		"", "a", "b", "key", "0", "[0]", "]", "][", "[", "\"", "\\", "\"]", "\\\"", "/", "\b\f\n\r\t", "\x01\x1f\x20\x7f", " a ", "\u00e9", "\u20ac", "\ud7ff\ue000\ufffd\uffff", "\U00010000\U0010ffff", "\\u0000",
		strings.Repeat("long key ", 1000),
	} {
		l = append(l, named(k))
	}
	return l
}

// invalidSteps holds steps with an error of every kind.
func invalidSteps() []api.Step {
	l := steps(index(-1), index(1000000000), index(1000000001), index(1<<32), index(1<<32+1), index(math.MaxInt), index(math.MinInt), index(math.MinInt+1), api.Step{Key: "a"}, api.Step{Key: "a", At: 1}, api.Step{Key: "\x00"}, api.Step{Key: " "})
	for _, at := range []int{1, -1, 999999999, math.MinInt, math.MaxInt, 1 << 32} {
		l = append(l, api.Step{ByKey: true, At: at}, api.Step{ByKey: true, At: at, Key: "a"})
	}
	for _, k := range []string{"\x00", "a\x00", "\x00a", "\x80", "\xff", "a\xc3", "\xc3a", "\xe2\x82", "\xc0\x80", "\xed\xa0\x80", "\xed\xa0\xbd\xed\xb8\x80", "\xf4\x90\x80\x80", "\xf0\x8f\xbf\xbf", "\u00e9\xa9"} {
		l = append(l, named(k))
	}
	return l
}

func checkShow(t *testing.T, p []api.Step, want string, wantE api.Errno) {
	t.Helper()
	if s, e := path.Show(p); s != want || e != wantE {
		t.Errorf("Show(%s) = %q, %d; want %q, %d", brief(p), s, e, want, wantE)
	}
}

func checkParse(t *testing.T, s string, want parsed) {
	t.Helper()
	if p, at, e := path.Parse(s); !slices.Equal(p, want.p) || at != want.at || e != want.e {
		t.Errorf("Parse(%.100q) = %s, %d, %d; want %s, %d, %d", s, brief(p), at, e, brief(want.p), want.at, want.e)
	}
}

func parsesTo(t *testing.T, s string, p ...api.Step) {
	t.Helper()
	checkParse(t, s, parsed{p: p})
}

func fails(t *testing.T, s string, e api.Errno, at int) {
	t.Helper()
	checkParse(t, s, parsed{at: at, e: e})
}

// The first two rows of the chapter's section 'Examples'.
func TestExamplesOfTexts(t *testing.T) {
	checkShow(t, steps(index(3), named(`a"`)), `[3]["a\""]`, api.OK)
	checkShow(t, steps(), "", api.OK)
	parsesTo(t, `[3]["a"]`, index(3), named("a"))
	parsesTo(t, "")
	fails(t, "[03]", api.ErrForm, 1)
	fails(t, "[3", api.ErrForm, 2)
	fails(t, "x", api.ErrForm, 0)
	fails(t, `["a]`, api.ErrTrunc, 4)
}

// P8.1: both forms of a step, at their limits.
func TestShow(t *testing.T) {
	checkShow(t, nil, "", api.OK)
	checkShow(t, steps(index(0)), "[0]", api.OK)
	checkShow(t, steps(index(999999999)), "[999999999]", api.OK)
	checkShow(t, steps(index(10), index(7)), "[10][7]", api.OK)
	checkShow(t, steps(named("")), `[""]`, api.OK)
	checkShow(t, steps(named("7")), `["7"]`, api.OK)
	checkShow(t, steps(named("a"), index(0), named("b")), `["a"][0]["b"]`, api.OK)
	checkShow(t, steps(named("/\\\"\n\x1f\x7f")), "[\"/\\\\\\\"\\n\\u001f\x7f\"]", api.OK)
	checkShow(t, steps(named("\u00e9\U0001f600")), "[\"\u00e9\U0001f600\"]", api.OK)
	for _, a := range validSteps() {
		for _, b := range validSteps() {
			want, _ := wantShow(steps(a, b))
			checkShow(t, steps(a, b), want, api.OK)
		}
	}
}

// P8.1: a step that is not valid, in every place.
func TestShowRefuses(t *testing.T) {
	for _, bad := range invalidSteps() {
		checkShow(t, steps(bad), "", api.ErrArg)
		for _, good := range validSteps() {
			checkShow(t, steps(bad, good), "", api.ErrArg)
			checkShow(t, steps(good, bad), "", api.ErrArg)
		}
		for at := range 64 {
			p := repeated(64, index(1))
			p[at] = bad
			checkShow(t, p, "", api.ErrArg)
		}
	}
}

// P8.1: 64 steps, and more, valid or not.
func TestShowLimit(t *testing.T) {
	checkShow(t, repeated(63, index(5)), strings.Repeat("[5]", 63), api.OK)
	checkShow(t, repeated(64, index(5)), strings.Repeat("[5]", 64), api.OK)
	checkShow(t, repeated(64, named("\n")), strings.Repeat(`["\n"]`, 64), api.OK)
	for _, n := range []int{65, 66, 128, 256, 1 << 16, 1 << 20} {
		checkShow(t, repeated(n, index(5)), "", api.ErrLimit)
		checkShow(t, repeated(n, named("a")), "", api.ErrLimit)
		checkShow(t, repeated(n, index(-1)), "", api.ErrLimit)
		checkShow(t, repeated(n, named("\xff")), "", api.ErrLimit)
	}
}

// P8.2: indices.
func TestParseIndices(t *testing.T) {
	parsesTo(t, "[0]", index(0))
	parsesTo(t, "[9]", index(9))
	parsesTo(t, "[10]", index(10))
	parsesTo(t, "[123456789]", index(123456789))
	parsesTo(t, "[999999999]", index(999999999))
	parsesTo(t, "[100000000][0][7]", index(100000000), index(0), index(7))
	fails(t, "[00]", api.ErrForm, 1)
	fails(t, "[01", api.ErrForm, 1)
	fails(t, "[0000000000]", api.ErrForm, 1)
	fails(t, "[0][01]", api.ErrForm, 4)
	fails(t, "[1000000000]", api.ErrForm, 1)
	fails(t, "[1234567890", api.ErrForm, 1)
	fails(t, "[1234567890x", api.ErrForm, 1)
	fails(t, "[5][18446744073709551617]", api.ErrForm, 4)
	fails(t, "[0x1]", api.ErrForm, 2)
	fails(t, "[1_0]", api.ErrForm, 2)
	fails(t, "[1.0]", api.ErrForm, 2)
	fails(t, "[1 ]", api.ErrForm, 2)
	fails(t, "[ 1]", api.ErrForm, 1)
	fails(t, "[+1]", api.ErrForm, 1)
	fails(t, "[-1]", api.ErrForm, 1)
	fails(t, "[\u0661]", api.ErrForm, 1)
	fails(t, "[1\u0661]", api.ErrForm, 2)
	fails(t, "[123456789\x00]", api.ErrForm, 10)
	fails(t, "[0[", api.ErrForm, 2)
	fails(t, "[9", api.ErrForm, 2)
}

// P8.2: keys.
func TestParseKeys(t *testing.T) {
	parsesTo(t, `[""]`, named(""))
	parsesTo(t, `["a"]["b"]`, named("a"), named("b"))
	parsesTo(t, `["1"][1]`, named("1"), index(1))
	parsesTo(t, `["[0]"]`, named("[0]"))
	parsesTo(t, `["]"]`, named("]"))
	parsesTo(t, `["\"]"]`, named(`"]`))
	parsesTo(t, `["\u0041\/\n"]`, named("A/\n"))
	parsesTo(t, `["\ud83d\ude00"][0]`, named("\U0001f600"), index(0))
	parsesTo(t, `["\\u0000"]`, named(`\u0000`))
	fails(t, `["\u0000"]`, api.ErrKey, 1)
	fails(t, `["a\u0000b"]`, api.ErrKey, 1)
	fails(t, `["\u0000"`, api.ErrKey, 1)
	fails(t, `["\u0000"x`, api.ErrKey, 1)
	fails(t, `[12]["a"]["\u0000"]`, api.ErrKey, 10)
	fails(t, `["\u0000\x"]`, api.ErrEscape, 9)
	fails(t, `["\u0000`, api.ErrTrunc, 8)
	fails(t, "[\"a\x00\"]", api.ErrEscape, 3)
	fails(t, "[\"\x80\"]", api.ErrUtf, 2)
	fails(t, "[\"a\"][\"\xc3\"]", api.ErrUtf, 8)
	fails(t, `[7]["\q"]`, api.ErrEscape, 6)
	fails(t, `["\ud800"]`, api.ErrEscape, 8)
	fails(t, `["`, api.ErrTrunc, 2)
	fails(t, `[0]["\`, api.ErrTrunc, 6)
	fails(t, `["a"`, api.ErrForm, 4)
	fails(t, `["a""b"]`, api.ErrForm, 4)
	fails(t, `["a" ]`, api.ErrForm, 4)
	fails(t, `["a"5]`, api.ErrForm, 4)
	fails(t, `['a']`, api.ErrForm, 1)
	fails(t, `[a]`, api.ErrForm, 1)
}

// P8.2: what is not a step, at the start, between steps and at the end.
func TestParseRefuses(t *testing.T) {
	fails(t, "[", api.ErrForm, 1)
	fails(t, "[]", api.ErrForm, 1)
	fails(t, "]", api.ErrForm, 0)
	fails(t, "0", api.ErrForm, 0)
	fails(t, `"a"`, api.ErrForm, 0)
	fails(t, " ", api.ErrForm, 0)
	fails(t, "\x00", api.ErrForm, 0)
	fails(t, "\n[0]", api.ErrForm, 0)
	fails(t, "[0] ", api.ErrForm, 3)
	fails(t, "[0]\n", api.ErrForm, 3)
	fails(t, "[0],[1]", api.ErrForm, 3)
	fails(t, "[0]]", api.ErrForm, 3)
	fails(t, "[[0]]", api.ErrForm, 1)
	fails(t, "[0][", api.ErrForm, 4)
	fails(t, "[0][]", api.ErrForm, 4)
	fails(t, `["a"]["b"]x`, api.ErrForm, 10)
}

// P8.2: 64 steps, and whatever follows them.
func TestParseLimit(t *testing.T) {
	for text, step := range map[string]api.Step{"[0]": index(0), `["a]"]`: named("a]"), "[12345]": index(12345)} {
		full := strings.Repeat(text, 64)
		parsesTo(t, full[len(text):], repeated(63, step)...)
		parsesTo(t, full, repeated(64, step)...)
		for _, rest := range []string{"[0]", "[", "]", "x", " ", "\x00", "\xff", "[00]", `["`, `["\u0000"]`, full, strings.Repeat("[0]", 1<<16)} {
			fails(t, full+rest, api.ErrLimit, len(full))
			fails(t, full[len(text):]+"x"+rest, api.ErrForm, len(full)-len(text))
		}
	}
}

// texts holds texts of paths, in which literals are spelled in several ways.
var texts = []string{
	"", "[0]", "[10][9]", "[123456789]", "[999999999][0]", `[""]`, `["a"]`, `[0]["a"][1]`, `["a"]["b"]`, `["\"\\\/\b\f\n\r\t"]`, `["\u0041\u00e9\u20AC"][7]`, `["\ud83d\ude00"]`,
	"[\"\u00e9\u20ac\U0001f600\"][5]", `["[1]"]["]"]`, "[\"\x7f\"]", `["\u0001"][2]`, `["\u0000"]`, `["a\u0000"][3]`,
}

// P8.2: each of the texts cut off anywhere, and with any one byte replaced, removed or inserted.
func TestParseOfChangedTexts(t *testing.T) {
	for _, s := range texts {
		checkParse(t, s, wantParse(s))
		for at := range len(s) + 1 {
			before, after := s[:at], s[at:]
			checkParse(t, before, wantParse(before))
			for b := range 256 {
				c := string([]byte{byte(b)})
				checkParse(t, before+c+after, wantParse(before+c+after))
				if after != "" {
					checkParse(t, before+c+after[1:], wantParse(before+c+after[1:]))
				}
			}
			if after != "" {
				checkParse(t, before+after[1:], wantParse(before+after[1:]))
			}
		}
	}
}

// eachText calls use with all strings of up to n of the given parts.
func eachText(parts []string, n int, use func(s string)) {
	var extend func(s string, n int)
	extend = func(s string, n int) {
		use(s)
		if n == 0 {
			return
		}
		for _, part := range parts {
			extend(s+part, n-1)
		}
	}
	extend("", n)
}

// P8.2: all short texts of the bytes that matter, and of parts of literals.
func TestParseOfShortTexts(t *testing.T) {
	check := func(s string) { checkParse(t, s, wantParse(s)) }
	eachText([]string{"[", "]", `"`, "0", "1", "a"}, 7, check)
	eachText([]string{"[0]", `["`, `"]`, "\\", "u0000", "\xc3\xa9", "\xff", "]", "12345", "00"}, 5, check)
}

// P8.6: the text of a valid path yields that path, both with one and with several steps.
func TestParseUndoesShow(t *testing.T) {
	l := validSteps()
	paths := [][]api.Step{nil, repeated(64, index(999999999)), repeated(64, named("\"\u20ac")), l}
	for _, a := range l {
		paths = append(paths, steps(a))
		for _, b := range l {
			paths = append(paths, steps(a, b), steps(b, index(0), a, named("")))
		}
	}
	for r := range rune(0x3000) {
		if r != 0 {
			paths = append(paths, steps(named(string(r))))
		}
	}
	for n := 1; n < 1000000000; n = n*3 + n%2 {
		paths = append(paths, steps(index(n)))
	}
	for _, p := range paths {
		s, e := path.Show(p)
		if e != api.OK {
			t.Errorf("Show(%s): %d", brief(p), e)
		}
		parsesTo(t, s, p...)
	}
}

// P8.6: a text that parses is that of the parsed path, byte by byte if its literals are short ones.
func TestShowUndoesParse(t *testing.T) {
	good := 0
	eachText([]string{"[0]", "[", "10", "]", `["`, `"]`, "a", `\n`, "\u00e9"}, 6, func(s string) {
		p, _, e := path.Parse(s)
		if e != api.OK {
			return
		}
		good++
		checkShow(t, p, s, api.OK)
	})
	if good < 1000 {
		t.Errorf("only %d texts parse", good)
	}
}

// P8.6: the literals of a text may be spelled otherwise than Show spells them.
func TestSpellings(t *testing.T) {
	spellings := map[string]string{
		`["\u0061"]`: `["a"]`, `["\/"][1]`: `["/"][1]`, `["\u000a"]`: `["\n"]`, `["\u000A"]`: `["\n"]`, `[0]["\u0022\u005c"]`: `[0]["\"\\"]`,
		`["\u001F"]`: `["\u001f"]`, `["\u00e9"]`: "[\"\u00e9\"]", `["\ud83d\ude00"]["\u0020"]`: "[\"\U0001f600\"][\" \"]",
	}
	for s, want := range spellings {
		p, _, e := path.Parse(s)
		if e != api.OK {
			t.Errorf("Parse(%s): %d", s, e)
		}
		checkShow(t, p, want, api.OK)
		parsesTo(t, want, p...)
	}
}

// P8.5: Show only reads its path, and leaves the capacity alone.
func TestPathsAreKept(t *testing.T) {
	all := append(validSteps(), invalidSteps()...)
	before := slices.Clone(all)
	for n := range all {
		path.Show(all[:n])
		path.Show(all[n:])
	}
	if !slices.Equal(all, before) {
		t.Error("a path has changed")
	}
}

// P8.5: keys of a parsed path are not parts of the text.
func TestParsedPathsAreNewMemory(t *testing.T) {
	const s = `["some key"][0]["another key, without any escape"]["\u0041\u0041\u0041"]`
	text := strings.Clone(s)
	from := reflect.ValueOf(text).Pointer()
	p, _, _ := path.Parse(text)
	if len(p) != 4 {
		t.Fatalf("Parse(%s) = %s", s, brief(p))
	}
	for _, step := range p {
		if at := reflect.ValueOf(step.Key).Pointer(); step.ByKey && at >= from && at < from+uintptr(len(text)) {
			t.Errorf("the key %q is a part of the text", step.Key)
		}
	}
	q, _, _ := path.Parse(text)
	p[0] = index(7)
	if q[0] != named("some key") {
		t.Error("a change of one result shows in another")
	}
	_ = append(q[:1], index(8))
	parsesTo(t, text, named("some key"), index(0), named("another key, without any escape"), named("AAA"))
}

// R1: long texts.
func TestLongTexts(t *testing.T) {
	const many = 1 << 22
	long := strings.Repeat("1", many)
	fails(t, "["+long+"]", api.ErrForm, 1)
	fails(t, "["+strings.Repeat("0", many), api.ErrForm, 1)
	parsesTo(t, `["`+long+`"]`, named(long))
	fails(t, `["`+long, api.ErrTrunc, many+2)
	fails(t, `["`+long+`"`, api.ErrForm, many+3)
	fails(t, `["`+long+`\u0000"]`, api.ErrKey, 1)
	fails(t, strings.Repeat("[", many), api.ErrForm, 1)
	fails(t, strings.Repeat("[0]", many), api.ErrLimit, 192)
	checkShow(t, steps(named(long)), `["`+long+`"]`, api.OK)
	checkShow(t, steps(named(long+"\x00")), "", api.ErrArg)
	checkShow(t, steps(named(long+"\xff")), "", api.ErrArg)
}
