package parse_test

import (
	"slices"
	"strconv"
	"strings"
	"testing"

	"accordion/api"
	"accordion/lex"
	"accordion/parse"
	"accordion/tree"
)

// texts holds JSON texts without white space at their ends.
var texts = []string{
	"null", "false", "true", "0", "-0", "7", "-2", "9223372036854775807", "-9223372036854775808", "9223372036854775808", "18446744073709551615",
	`""`, `"a"`, `"null"`, `"\u0000"`, `"\u00e4\/\n"`, `"\uD83D\uDE00"`, "\"\u00e4\u20ac\"", `"{\"a\":[1,2]}"`,
	"[]", "{}", "[[]]", "[{}]", `{"":{}}`, `{"a":[]}`, "[0]", "[1,2,3]", "[ 1\n,\t-2\r]", "[null,false,true,[],{},\"\"]", "[[],[[],[]],[]]",
	`{"a":1}`, `{"b": [1, -2], "a": "x"}`, `{"a":{"a":{"a":null}},"b":{"a":1}}`, `[{"a":1},{"a":2},{"a":3}]`, `{"a":1,"A":2,"":3,"a ":4,"\u00e4":5}`,
	`{"c":{"b":[{"a":"\u0000"}]},"b":[[[0]]],"a":18446744073709551615}`, "{ \"a\"\t:\n[ ] ,\r\"b\" : { } }", `[[1,[2,[3]]],4,{"k":[5,{"k":6}]}]`,
}

func checkParse(t *testing.T, s string, want api.Node, wantAt int, wantE api.Errno) {
	t.Helper()
	if got, at, e := parse.Parse(s); !tree.Same(got, want) || at != wantAt || e != wantE {
		t.Errorf("Parse(%q) = a tree of the kind %d with %d nodes, %d, %d; want the kind %d, %d nodes, %d, %d", short(s), got.Kind, tree.Size(got), at, e, want.Kind, tree.Size(want), wantAt, wantE)
	}
}

func yields(t *testing.T, s string, want api.Node) {
	t.Helper()
	checkParse(t, s, want, 0, api.OK)
}

func fails(t *testing.T, s string, at int, e api.Errno) {
	t.Helper()
	checkParse(t, s, api.Node{}, at, e)
}

// isAsDescribed compares Parse with the chapter's description; it reports whether the string is a JSON text.
func isAsDescribed(t *testing.T, s string) bool {
	t.Helper()
	want, at, e := wantParse(s)
	checkParse(t, s, want, at, e)
	return e == api.OK
}

// short keeps a message readable if the input is long.
func short(s string) string {
	if len(s) > 200 {
		return s[:40] + ".. " + strconv.Itoa(len(s)) + " bytes"
	}
	return s
}

func integer(n int64) api.Node { return api.Node{Kind: api.KInt, N: n} }

func text(s string) api.Node { return api.Node{Kind: api.KStr, S: s} }

func vector(l ...api.Node) api.Node { return api.Node{Kind: api.KVec, L: l} }

// mapping makes a map of the keys that a string lists.
func mapping(keys string, l ...api.Node) api.Node {
	return api.Node{Kind: api.KMap, Keys: strings.Fields(keys), L: l}
}

// nested makes a text with so many lists, one in the other, around another text.
func nested(n int, inner string) string {
	return strings.Repeat("[", n) + inner + strings.Repeat("]", n)
}

// listOf makes a list of a text, repeated so many times.
func listOf(n int, part string) string {
	return "[" + strings.TrimSuffix(strings.Repeat(part+",", n), ",") + "]"
}

// mapOf makes a map with so many distinct keys, all of the same value.
func mapOf(n int, value string) string {
	var members []string
	for i := range n {
		members = append(members, `"`+strconv.Itoa(i)+`":`+value)
	}
	return "{" + strings.Join(members, ",") + "}"
}

// The table of the chapter's section 'Examples'.
func TestExamples(t *testing.T) {
	yields(t, `{"b": [1, -2], "a": "x"}`, mapping("b a", vector(integer(1), integer(-2)), text("x")))
	yields(t, "18446744073709551615", api.Node{Kind: api.KUint, U: 1<<64 - 1})
	yields(t, "null", api.Node{Kind: api.KNull})
	yields(t, "[]", vector())
	yields(t, "{}", mapping(""))
	fails(t, "[1,]", 3, api.ErrJson)
	fails(t, "[1 2]", 3, api.ErrJson)
	fails(t, `{"a" 1}`, 5, api.ErrJson)
	fails(t, `{"a":1,}`, 7, api.ErrJson)
	fails(t, "", 0, api.ErrJson)
	fails(t, "1 2", 2, api.ErrJson)
	fails(t, "{1:2}", 1, api.ErrJson)
	fails(t, `{"a":1,"a":2}`, 7, api.ErrTwice)
	fails(t, `{"\u0000":1}`, 1, api.ErrKey)
	fails(t, "[1.5]", 1, api.ErrNumber)
	fails(t, `["\x"]`, 3, api.ErrEscape)
	want := vector()
	for range 63 {
		want = vector(want)
	}
	yields(t, nested(64, ""), want)
	fails(t, nested(65, ""), 64, api.ErrDeep)
}

// P11.1: the table of values.
func TestValues(t *testing.T) {
	yields(t, "false", api.Node{Kind: api.KBool})
	yields(t, "true", api.Node{Kind: api.KBool, N: 1})
	yields(t, "-0", integer(0))
	yields(t, "-9223372036854775808", integer(-1<<63))
	yields(t, "9223372036854775807", integer(1<<63-1))
	yields(t, "9223372036854775808", api.Node{Kind: api.KUint, U: 1 << 63})
	yields(t, `""`, text(""))
	yields(t, `"\u0000\u00e4"`, text("\x00\u00e4"))
	yields(t, "[true,[null]]", vector(api.Node{Kind: api.KBool, N: 1}, vector(api.Node{Kind: api.KNull})))
	yields(t, `{"z":1,"y":{"z":2},"x":3}`, mapping("z y x", integer(1), mapping("z", integer(2)), integer(3)))
	yields(t, " \t\n\r[ \t\n\r] \t\n\r", vector())
}

// P11.1: texts, and what becomes of them if a byte is changed, removed, inserted or repeated.
func TestChangedTexts(t *testing.T) {
	const bytes = "{}[],:\" \\01-.eanflt\x00\x1f\x80\xc3\xff"
	for _, s := range texts {
		if !isAsDescribed(t, s) {
			t.Errorf("%q should be a JSON text", s)
		}
		for i := range len(s) {
			isAsDescribed(t, s[:i]+s[i+1:])
			isAsDescribed(t, s[:i]+s[i:i+1]+s[i:])
			for c := range len(bytes) {
				isAsDescribed(t, s[:i]+bytes[c:c+1]+s[i+1:])
				isAsDescribed(t, s[:i]+bytes[c:c+1]+s[i:])
			}
		}
	}
}

// P11.1: all pairs of bytes, alone and in a list.
func TestPairsOfBytes(t *testing.T) {
	for a := range 256 {
		isAsDescribed(t, string([]byte{byte(a)}))
		for b := range 256 {
			pair := string([]byte{byte(a), byte(b)})
			isAsDescribed(t, pair)
			if a%5 == b%5 {
				isAsDescribed(t, "["+pair+"]")
			}
		}
	}
}

// P11.1: every token after every sequence of tokens that is a prefix of a JSON text.
func TestSequencesOfTokens(t *testing.T) {
	tokens := []string{"{", "}", "[", "]", ",", ":", "null", `"a"`, `"b"`, `"\u0000"`, "x"}
	found := map[api.Errno]int{}
	var extend func(s string, more int)
	extend = func(s string, more int) {
		at, e := wantError(s)
		found[e]++
		isAsDescribed(t, s)
		if more == 0 || e != api.OK && at < len(s) {
			return
		}
		for _, token := range tokens {
			extend(s+token, more-1)
		}
	}
	extend("", 8)
	for _, e := range []api.Errno{api.OK, api.ErrKey, api.ErrTwice, api.ErrJson} {
		if found[e] < 40 {
			t.Errorf("only %d sequences yield %d", found[e], e)
		}
	}
}

// P11.1: nothing that follows the first error changes it.
func TestFirstErrorCounts(t *testing.T) {
	const duplicate, zero = `[{"a":1, "a"`, `["\u0000", {"a\u0000a"`
	for _, after := range []string{"", " ", "x", ":x", ":", "\"", `"a"`, ":1.5}", `:1,"a":1}`, ":1}", "]", "}", nested(70, "")} {
		// The last byte of each is a token that no JSON text has there.
		for _, s := range []string{
			"]", "}", ",", ":", "[}", "[,", "[:", "[1 2", "[1}", "[1:", "[1 [", "[1,]", "[1,,", "[1,}", "[1,:",
			"{]", "{,", "{:", "{1", "{{", "{[", `{"a"}`, `{"a",`, `{"a"]`, `{"a" 1`, `{"a"{`, `{"a":}`, `{"a":]`, `{"a":,`, `{"a"::`,
			`{"a":1]`, `{"a":1:`, `{"a":1 2`, `{"a":1{`, `{"a":1,}`, `{"a":1,]`, `{"a":1,,`, `{"a":1,2`, `{"a":1,[`,
			"[]]", "[]}", "[],", "[]:", "{}{", "null[", "1{", `"a" 0`, "[[]}", "[{]", `[{"a":1]`, `{"a":[}`, `[{"a":[1}`,
		} {
			fails(t, s+after, len(s)-1, api.ErrJson)
		}
		fails(t, duplicate+after, 9, api.ErrTwice)
		fails(t, zero+after, 12, api.ErrKey)
	}
}

// P11.1: the errors of the lexer, with the offsets that it reports, come before those of the parser.
func TestErrorsOfTheLexer(t *testing.T) {
	for _, s := range []string{"", "[", "[1,", "[1 ", `{"a":`, `{"a"`, `{"a":1,`, `{"a":1 `, "{", "1 ", "[] ", nested(64, "")[:64], "[" + strings.Repeat("1,", 4095)} {
		for token, want := range map[string]lex.Token{
			"x": {}, "nul": {From: 3}, "nulx": {From: 3}, "1.": {From: 2}, "-": {From: 1}, "1e+": {From: 3}, "\x00": {}, "\xff": {},
		} {
			fails(t, s+token, len(s)+want.From, api.ErrJson)
		}
		fails(t, s+"1.5", len(s), api.ErrNumber)
		fails(t, s+"1e5", len(s), api.ErrNumber)
		fails(t, s+"18446744073709551616", len(s), api.ErrNumber)
		fails(t, s+"-9223372036854775809", len(s), api.ErrNumber)
		fails(t, s+`"ab`, len(s)+3, api.ErrTrunc)
		fails(t, s+`"a\x"`, len(s)+3, api.ErrEscape)
		fails(t, s+"\"\n\"", len(s)+1, api.ErrEscape)
		fails(t, s+"\"\x80\"", len(s)+1, api.ErrUtf)
		fails(t, s+"\"\xc3\"", len(s)+2, api.ErrUtf)
	}
}

// P11.1: keys.
func TestKeys(t *testing.T) {
	yields(t, `{"":1,"a":2,"A":3,"aa":4,"\\u0000":5}`, api.Node{Kind: api.KMap, Keys: []string{"", "a", "A", "aa", `\u0000`}, L: []api.Node{integer(1), integer(2), integer(3), integer(4), integer(5)}})
	yields(t, `[{"a":{"a":"a"}},{"a":1}]`, vector(mapping("a", mapping("a", text("a"))), mapping("a", integer(1))))
	fails(t, `{"":1,"":2}`, 6, api.ErrTwice)
	fails(t, `{"a":1,"b":2,"a":3}`, 13, api.ErrTwice)
	fails(t, `{"a":1,"b":2,"b":3,"a":4}`, 13, api.ErrTwice)
	fails(t, `{"a":1, "\u0061":2}`, 8, api.ErrTwice)
	fails(t, `{"\u00e4":1,"`+"\u00e4"+`":2}`, 12, api.ErrTwice)
	fails(t, `{"a":{"b":1,"b":2},"a":3}`, 12, api.ErrTwice)
	fails(t, `{"a":{"b":1},"a":3}`, 13, api.ErrTwice)
	fails(t, `{"\u0000":1,"\u0000":2}`, 1, api.ErrKey)
	fails(t, `{"a":1,"b\u0000c":2}`, 7, api.ErrKey)
	fails(t, `{"a":1,"a":2,"\u0000":3}`, 7, api.ErrTwice)
	fails(t, `{"a":1,"\u0000":2,"a":3}`, 7, api.ErrKey)
}

// P11.1: many keys, of which the last one may be equal to another.
func TestManyKeys(t *testing.T) {
	s := mapOf(4095, "0")
	got, at, e := parse.Parse(s)
	if len(got.Keys) != 4095 || len(got.L) != 4095 || at != 0 || e != api.OK {
		t.Errorf("a map of 4095 keys: %d keys, %d, %d", len(got.Keys), at, e)
	}
	for i, k := range got.Keys {
		if k != strconv.Itoa(i) || got.L[i].Kind != api.KInt {
			t.Errorf("the key %d is %q", i, k)
		}
	}
	open := strings.TrimSuffix(s, "}") + ","
	for _, k := range []string{"0", "1", "2000", "4093", "4094"} {
		fails(t, open+`"`+k+`":0}`, len(open), api.ErrTwice)
	}
	fails(t, open+`"4095":0}`, len(open)+7, api.ErrLimit)
}

// P11.1: the limit of the length.
func TestLength(t *testing.T) {
	const most = 1 << 20
	blank := strings.Repeat(" ", most-2)
	yields(t, blank+"[]", vector())
	yields(t, "["+blank+"]", vector())
	yields(t, "[]"+blank, vector())
	yields(t, `"`+blank+`"`, text(blank))
	fails(t, blank+"[ ", most, api.ErrJson)
	fails(t, blank+"[x", most-1, api.ErrJson)
	fails(t, `"`+blank+"a", most, api.ErrTrunc)
	for _, s := range []string{blank + " []", "[]" + blank + " ", `"` + blank + ` "`, blank + "   ", "x" + blank + "  ", `"` + blank + "  ", "[" + strings.Repeat("[", most), strings.Repeat("1,", most)} {
		fails(t, s, 0, api.ErrLimit)
	}
}

// P11.1: the limit of the number of values.
func TestNumberOfValues(t *testing.T) {
	for _, part := range []string{"0", `""`, "[]", "{}", "null"} {
		s := listOf(4095, part)
		if got, at, e := parse.Parse(s); tree.Size(got) != 4096 || at != 0 || e != api.OK {
			t.Errorf("4096 values: %d, %d, %d", tree.Size(got), at, e)
		}
		fails(t, s+" 1", len(s)+1, api.ErrJson)
		for _, next := range []string{"0", "18446744073709551615", `"a"`, "null", "true", "false", "[", "{"} {
			fails(t, s[:len(s)-1]+", "+next, len(s)+1, api.ErrLimit)
		}
		for _, next := range []string{"]", "}", ",", ":", ""} {
			fails(t, s[:len(s)-1]+", "+next, len(s)+1, api.ErrJson)
		}
	}
	pairs := listOf(1365, `{"a":[0]}`) // 1 + 1365 * 3 values
	if got, at, e := parse.Parse(pairs); tree.Size(got) != 4096 || at != 0 || e != api.OK {
		t.Errorf("4096 values of all levels: %d, %d, %d", tree.Size(got), at, e)
	}
	fails(t, pairs[:len(pairs)-3]+`,[]]}]`, len(pairs)-2, api.ErrLimit)
	fails(t, pairs[:len(pairs)-2]+`,"a":1}]`, len(pairs)-1, api.ErrTwice)
	fails(t, pairs[:len(pairs)-2]+`,1:1}]`, len(pairs)-1, api.ErrJson)
	fails(t, pairs[:len(pairs)-2]+`,"b":1}]`, len(pairs)+3, api.ErrLimit)
}

// P11.1: the limit of the depth.
func TestDepth(t *testing.T) {
	for _, inner := range []string{"0", `"a"`, "true", "[]", "{}", `{"a":0}`} {
		deep := strings.Count(inner, ":")
		if got, at, e := parse.Parse(nested(63-deep, inner)); tree.Deep(got) != 64 || at != 0 || e != api.OK {
			t.Errorf("a depth of 64: %d, %d, %d", tree.Deep(got), at, e)
		}
		fails(t, nested(64, inner), 64, api.ErrDeep)
	}
	fails(t, nested(63, `{"a":0}`), 63+5, api.ErrDeep)
	fails(t, nested(63, `{"a":[]}`), 63+5, api.ErrDeep)
	fails(t, nested(63, `{"\u0000":[]}`), 63+1, api.ErrKey)
	for _, next := range []string{",", ":", "}", ""} {
		fails(t, strings.Repeat("[", 64)+next, 64, api.ErrJson)
	}
	maps := strings.Repeat(`{"a":`, 64)
	fails(t, maps+"1", 5*64, api.ErrDeep)
	fails(t, strings.Repeat(`{"a":`, 63)+"{1", 5*63+1, api.ErrJson)
	if got, _, e := parse.Parse(strings.TrimSuffix(maps, `"a":`) + strings.Repeat("}", 64)); tree.Deep(got) != 64 || e != api.OK {
		t.Errorf("64 nested maps: %d, %d", tree.Deep(got), e)
	}
	fails(t, strings.Repeat("[", 1<<20), 64, api.ErrDeep)
	fails(t, strings.Repeat(`{"a":`, 1<<17), 64*5, api.ErrDeep)
	fails(t, strings.Repeat(`[{"a":`, 1<<17), 32*6, api.ErrDeep)
}

// P11.1: lists and maps that have ended do not count for the depth.
func TestDepthOfSiblings(t *testing.T) {
	many := listOf(30, nested(62, "1")) + " "
	if got, at, e := parse.Parse(many); tree.Deep(got) != 64 || len(got.L) != 30 || at != 0 || e != api.OK {
		t.Errorf("30 deep lists: %d, %d, %d", tree.Deep(got), at, e)
	}
	last := many[:len(many)-2] + ","
	fails(t, last+nested(63, "1")+"]", len(last)+63, api.ErrDeep)
	both := mapOf(40, nested(50, "{}"))
	if got, at, e := parse.Parse(both); tree.Deep(got) != 52 || len(got.L) != 40 || at != 0 || e != api.OK {
		t.Errorf("40 deep members: %d, %d, %d", tree.Deep(got), at, e)
	}
}

// P11.1: where a value is both one too many and too deep, the first counts.
func TestBothLimits(t *testing.T) {
	few := "[" + strings.Repeat("1,", 4096-65) + strings.Repeat("[", 63)
	fails(t, few+"1", len(few), api.ErrDeep)
	many := "[" + strings.Repeat("1,", 4096-64) + strings.Repeat("[", 63)
	fails(t, many+"1", len(many), api.ErrLimit)
	fails(t, many+",", len(many), api.ErrJson)
}

// shares reports whether the slices of a tree share memory: it overwrites them one by one, with their unused capacity, and looks for changes of the others.
func shares(x api.Node) bool {
	before := tree.Copy(x)
	for i := range x.L {
		if shares(x.L[i]) {
			return true
		}
	}
	if !tree.Same(x, before) {
		return true
	}
	spare := x.L[len(x.L):cap(x.L)]
	for i := range spare {
		spare[i] = text("spare")
	}
	keys := x.Keys[len(x.Keys):cap(x.Keys)]
	for i := range keys {
		keys[i] = "spare"
	}
	return !tree.Same(x, before)
}

// overwrite changes all slices of a tree, with their unused capacity.
func overwrite(x api.Node) {
	for _, child := range x.L {
		overwrite(child)
	}
	for i, l := 0, x.L[:cap(x.L)]; i < len(l); i++ {
		l[i] = integer(-99)
	}
	for i, l := 0, x.Keys[:cap(x.Keys)]; i < len(l); i++ {
		l[i] = "overwritten"
	}
}

// P11.2, R2: results are new memory, and so are the parts of one result.
func TestResultsAreNew(t *testing.T) {
	for _, s := range append([]string{listOf(100, `{"a":[1,2,3],"b":{"c":[]}}`)}, texts...) {
		want := wantTree(s)
		first, _, _ := parse.Parse(s)
		second, _, _ := parse.Parse(s)
		if shares(first) {
			t.Errorf("Parse(%q): the parts of the result share memory", short(s))
		}
		overwrite(first)
		if !tree.Same(second, want) {
			t.Errorf("two results of Parse(%q) share memory", short(s))
		}
		yields(t, s, want)
		for i := range second.L {
			overwrite(second.L[i])
			for j := i + 1; j < len(second.L); j++ {
				if !tree.Same(second.L[j], want.L[j]) {
					t.Errorf("Parse(%q): the children %d and %d share memory", short(s), i, j)
				}
			}
		}
	}
}

// valuesOf counts the tokens that start a value, those of a text without errors.
func valuesOf(s string) int {
	n := 0
	l, _, _ := lex.All(s)
	for i, x := range l {
		isKey := i+1 < len(l) && l[i+1].Kind == lex.Colon
		if !isKey && slices.Contains([]int{lex.Open, lex.List, lex.Null, lex.False, lex.True, lex.Int, lex.Uint, lex.Text}, x.Kind) {
			n++
		}
	}
	return n
}

// P11.3: the result is a valid tree with a node for each value.
func TestTreesAreValid(t *testing.T) {
	large := []string{nested(63, "1"), nested(64, ""), listOf(4095, "{}"), mapOf(2000, "[[]]"), mapOf(4095, "null"), listOf(60, nested(60, "0"))}
	for _, s := range append(large, texts...) {
		x, _, e := parse.Parse(s)
		if e != api.OK || tree.Check(x) != api.OK || tree.Size(x) != valuesOf(s) {
			t.Errorf("Parse(%q): %d, tree.Check %d, %d nodes of %d values", short(s), e, tree.Check(x), tree.Size(x), valuesOf(s))
		}
	}
}

// samples yields lists of texts: each text alone, all pairs, all texts together, and none.
func samples(yield func(l []string) bool) {
	if !yield(nil) || !yield(texts) {
		return
	}
	for _, a := range texts {
		if !yield([]string{a}) {
			return
		}
		for _, b := range texts {
			if !yield([]string{a, b}) {
				return
			}
		}
	}
}

// P11.4: texts that are joined in a list or, with distinct keys, in a map.
func TestJoinedTexts(t *testing.T) {
	for l := range samples {
		list, members := vector(), mapping("")
		var parts []string
		for i, s := range l {
			x, _, _ := parse.Parse(s)
			k := strings.Repeat("k", i)
			parts = append(parts, `"`+k+`":`+s)
			list.L = append(list.L, x)
			members.Keys, members.L = append(members.Keys, k), append(members.L, x)
		}
		yields(t, "["+strings.Join(l, ",")+"]", list)
		yields(t, "{"+strings.Join(parts, ",")+"}", members)
		if len(parts) > 0 {
			s := "{" + strings.Join(parts, ",")
			fails(t, s+`,"":0}`, len(s)+1, api.ErrTwice)
		}
	}
}

// respelled writes the tokens of a text with white space around them and every literal with escapes of one form.
func respelled(t *testing.T, s, white string, spell func(text string) string) string {
	t.Helper()
	l, _, e := lex.All(s)
	if e != api.OK {
		t.Fatalf("lex.All(%q): %d", s, e)
	}
	out := white
	for _, x := range l {
		token := s[x.From:x.To]
		if x.Kind == lex.Text {
			token = spell(x.Text)
		}
		out += token + white
	}
	return out
}

func lower(text string) string { return units(text, "0123456789abcdef") }

func upper(text string) string { return units(text, "0123456789ABCDEF") }

// units spells a text by its UTF-16 units alone.
func units(text, digits string) string {
	out := `"`
	unit := func(u rune) {
		out += `\u`
		for shift := 12; shift >= 0; shift -= 4 {
			out += string(digits[u>>shift&15])
		}
	}
	for _, r := range text {
		if r >= 0x10000 {
			unit(0xd800 + (r-0x10000)>>10)
			r = 0xdc00 + (r-0x10000)&0x3ff
		}
		unit(r)
	}
	return out + `"`
}

// P11.5: white space and the spelling of literals.
func TestWhiteSpaceAndSpelling(t *testing.T) {
	for _, s := range texts {
		want := wantTree(s)
		for _, white := range []string{"", " ", "\t", "\n", "\r", " \t\n\r ", strings.Repeat("\n ", 50)} {
			yields(t, respelled(t, s, white, lower), want)
			yields(t, respelled(t, s, white, upper), want)
		}
	}
	twice := respelled(t, `{"a/":1,"b":2,`, "  ", upper)
	fails(t, twice+`"a\/":3}`, len(twice), api.ErrTwice)
}

// P11.6: the proper prefixes of a text; of a long one, those that are short and those that end near its end.
func TestPrefixes(t *testing.T) {
	long := []string{listOf(1000, "0"), nested(64, ""), mapOf(300, `{"a":[]}`)}
	for _, s := range append(long, texts...) {
		if strings.IndexByte("-0123456789", s[0]) >= 0 {
			continue
		}
		for n := range min(len(s), 100) {
			prefixIsNoText(t, s, n)
			prefixIsNoText(t, s, len(s)-1-n)
		}
	}
}

func prefixIsNoText(t *testing.T, s string, n int) {
	t.Helper()
	if x, at, e := parse.Parse(s[:n]); !tree.Same(x, api.Node{}) || at != n || e != api.ErrJson && e != api.ErrTrunc {
		t.Errorf("the first %d bytes of %q: %d, %d", n, short(s), at, e)
	}
}

// R1: inputs that are no texts at all.
func TestAnyBytes(t *testing.T) {
	seed := uint32(1)
	next := func(below int) int {
		seed = seed*1664525 + 1013904223
		return int(seed>>8) % below
	}
	const common = `{}[],:"\u0 1-.etrufalsn` + "\n\x00\xff"
	for range 5000 {
		var s []byte
		for range next(30) {
			if next(10) == 0 {
				s = append(s, byte(next(256)))
			} else {
				s = append(s, common[next(len(common))])
			}
		}
		isAsDescribed(t, string(s))
	}
}
