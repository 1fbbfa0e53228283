package print_test

import (
	"math"
	"runtime"
	"strconv"
	"strings"
	"testing"

	"accordion/api"
	"accordion/print"
	"accordion/tree"
)

const most = 1 << 20

func checkPrint(t *testing.T, x api.Node, want string, wantE api.Errno) {
	t.Helper()
	if got, e := print.Print(x); got != want || e != wantE {
		t.Errorf("Print(%s) = %s, %d; want %s, %d", short(x), brief(got), e, brief(want), wantE)
	}
}

func yields(t *testing.T, x api.Node, want string) {
	t.Helper()
	checkPrint(t, x, want, api.OK)
}

func fails(t *testing.T, x api.Node, e api.Errno) {
	t.Helper()
	checkPrint(t, x, "", e)
}

// isAsDescribed compares Print with the chapter's description.
func isAsDescribed(t *testing.T, x api.Node) {
	t.Helper()
	want, e := wantPrint(x)
	checkPrint(t, x, want, e)
}

// The table of the chapter's section 'Examples'.
func TestExamples(t *testing.T) {
	yields(t, dict([]string{"b", "a"}, vec(num(1), null), truth(1)), `{"a":true,"b":[1,null]}`)
	yields(t, num(math.MinInt64), "-9223372036854775808")
	yields(t, uns(math.MaxUint64), "18446744073709551615")
	yields(t, str("\u00e9 / \n"), "\"\u00e9 / \\n\"")
	yields(t, name(`\`), `"\\"`)
	yields(t, indNum(7), "7")
	yields(t, blob("foo"), `"Zm9v"`)
	yields(t, list(api.KFixInts, num(1), num(-2)), "[1,-2]")
	yields(t, vec(), "[]")
	yields(t, dict(nil), "{}")
	fails(t, str("\xff"), api.ErrUtf)
	fails(t, entry("\xff", num(5)), api.ErrUtf)
	fails(t, api.Node{}, api.ErrKind)
}

// P12.1: numbers and words.
func TestNumbers(t *testing.T) {
	yields(t, null, "null")
	yields(t, truth(0), "false")
	yields(t, truth(1), "true")
	for n, want := range map[int64]string{0: "0", 1: "1", -1: "-1", 10: "10", -10: "-10", 1000000: "1000000", math.MaxInt64: "9223372036854775807", math.MinInt64 + 1: "-9223372036854775807", math.MinInt64: "-9223372036854775808"} {
		yields(t, num(n), want)
		yields(t, indNum(n), want)
	}
	for n, want := range map[uint64]string{0: "0", 1: "1", 10: "10", math.MaxInt64: "9223372036854775807", 1 << 63: "9223372036854775808", math.MaxUint64: "18446744073709551615"} {
		yields(t, uns(n), want)
		yields(t, indUns(n), want)
	}
}

// P12.1: strings and keys as short literals, with every scalar value below 800 and some of the others.
func TestLiterals(t *testing.T) {
	yields(t, str(""), `""`)
	yields(t, str("a\x00b"), `"a\u0000b"`)
	yields(t, name("\x01\x1f\x7f"), "\"\\u0001\\u001f\x7f\"")
	yields(t, entry("\b\f\n\r\t\"\\/", str("\b\f\n\r\t\"\\/")), `{"\b\f\n\r\t\"\\/":"\b\f\n\r\t\"\\/"}`)
	yields(t, list(api.KKeys, name("<&>"), name("\u2028"), name("\U0001f600")), "[\"<&>\",\"\u2028\",\"\U0001f600\"]")
	for r := range rune(0x800) {
		s := "x" + string(r)
		literal := wantLiteral(s)
		yields(t, str(s), literal)
		if r > 0 {
			yields(t, name(s), literal)
			yields(t, entry(s, str(s)), "{"+literal+":"+literal+"}")
		}
	}
	for _, s := range words {
		literal := wantLiteral(s)
		yields(t, vec(str(s), name(s), entry(s, null)), "["+literal+","+literal+",{"+literal+":null}]")
	}
}

// P12.1: blobs of every length modulo 3, of every byte and of bytes that are no UTF-8.
func TestBlobs(t *testing.T) {
	yields(t, blob(""), `""`)
	yields(t, blob("f"), `"Zg=="`)
	yields(t, blob("fo"), `"Zm8="`)
	yields(t, blob("foof"), `"Zm9vZg=="`)
	yields(t, blob("\xfb\xef\xbe\xff"), `"++++/w=="`)
	yields(t, blob("\xff\xff\xff"), `"////"`)
	yields(t, vec(blob("\x01"), blob("\xc3")), `["AQ==","ww=="]`)
	yields(t, entry("blob", blob("\x00")), `{"blob":"AA=="}`)
	var bytes []byte
	for i := range 256 {
		bytes = append(bytes, byte(i))
		isAsDescribed(t, blob(string(bytes)))
		isAsDescribed(t, blob(string(bytes[i:])))
	}
}

// P12.1: vectors of every kind, with the children in their order.
func TestVectors(t *testing.T) {
	yields(t, vec(num(2), str("a"), null, vec(), dict(nil)), `[2,"a",null,[],{}]`)
	yields(t, list(api.KInts, num(3), num(-1), num(2)), "[3,-1,2]")
	yields(t, list(api.KUints, uns(1<<63)), "[9223372036854775808]")
	yields(t, list(api.KKeys, name("b"), name("a"), name("b")), `["b","a","b"]`)
	yields(t, list(api.KBools, truth(1), truth(0), truth(0)), "[true,false,false]")
	yields(t, list(api.KFixInts, num(4), num(3), num(2), num(1)), "[4,3,2,1]")
	yields(t, list(api.KFixUints, uns(3), uns(2), uns(1)), "[3,2,1]")
	yields(t, vec(vec(), vec(vec(num(1)), num(2)), vec()), "[[],[[1],2],[]]")
	for _, kind := range []int{api.KVec, api.KInts, api.KUints, api.KKeys, api.KBools} {
		yields(t, list(kind), "[]")
	}
}

// P12.1: the entries of maps are in the bytewise order of the keys, not in that of their literals or of UTF-16.
func TestMaps(t *testing.T) {
	x := dict([]string{"c", "", "ab", "b", "a"}, num(1), num(2), num(3), num(4), num(5))
	yields(t, x, `{"":2,"a":5,"ab":3,"b":4,"c":1}`)
	yields(t, dict([]string{"a", "a!", "a "}, num(1), num(2), num(3)), `{"a":1,"a ":3,"a!":2}`)
	yields(t, dict([]string{"#", `"`, "A", "\n", `\`, "]"}, num(1), num(2), num(3), num(4), num(5), num(6)), `{"\n":4,"\"":2,"#":1,"A":3,"\\":5,"]":6}`)
	yields(t, dict([]string{"\U00010000", "\uffff", "z", "\u00e9"}, num(1), num(2), num(3), num(4)), "{\"z\":3,\"\u00e9\":4,\"\uffff\":2,\"\U00010000\":1}")
	yields(t, dict([]string{"10", "9", "B", "a"}, null, null, null, null), `{"10":null,"9":null,"B":null,"a":null}`)
	yields(t, vec(dict([]string{"b", "a"}, dict([]string{"d", "c"}, num(1), num(2)), vec(dict([]string{"f", "e"}, num(3), num(4))))), `[{"a":[{"e":4,"f":3}],"b":{"c":2,"d":1}}]`)
}

// P12.1: all orders of the entries of a map.
func TestOrdersOfEntries(t *testing.T) {
	values := map[string]api.Node{"": vec(), "a": num(1), "ab": dict(nil), "b": str("b"), "\u00e9": null, `"`: truth(0)}
	var use func(x api.Node)
	use = func(x api.Node) {
		if len(x.Keys) == len(values) {
			yields(t, x, "{\"\":[],\"\\\"\":false,\"a\":1,\"ab\":{},\"b\":\"b\",\"\u00e9\":null}")
			return
		}
	next:
		for k, value := range values {
			for _, used := range x.Keys {
				if k == used {
					continue next
				}
			}
			use(dict(append(x.Keys[:len(x.Keys):len(x.Keys)], k), append(x.L[:len(x.L):len(x.L)], value)...))
		}
	}
	use(dict(nil))
}

// P12.1: trees of every kind, alone and within others.
func TestPrint(t *testing.T) {
	for _, x := range append(validTrees(), nested(63), wide(4095), shared()) {
		want := wantText(x)
		yields(t, x, want)
		yields(t, x, want) // once more: R2
	}
}

// P12.1: invalid trees, with the error of tree.Check and no text.
func TestInvalidTrees(t *testing.T) {
	seen := map[api.Errno]bool{}
	for _, x := range invalidTrees() {
		want := tree.Check(x)
		if want == api.OK {
			t.Errorf("%s is valid", short(x))
		}
		seen[want] = true
		fails(t, x, want)
	}
	for _, e := range []api.Errno{api.ErrLimit, api.ErrKind, api.ErrDeep, api.ErrKey, api.ErrTwice} {
		if !seen[e] {
			t.Errorf("no tree with the error %d", e)
		}
	}
}

// P12.1: strings and keys that are not valid UTF-8, wherever they are.
func TestInvalidUtf(t *testing.T) {
	for _, s := range broken {
		for _, bad := range []api.Node{str(s), name(s), list(api.KKeys, name(s)), list(api.KKeys, name("a"), name(s), name("b")), entry(s, null), dict([]string{"a", s, "b"}, null, null, null), dict([]string{s, "\u20ac"}, null, null)} {
			fails(t, bad, api.ErrUtf)
			fails(t, vec(bad), api.ErrUtf)
			fails(t, vec(null, bad, num(1)), api.ErrUtf)
			fails(t, dict([]string{"b", "a"}, bad, null), api.ErrUtf)
			fails(t, dict([]string{"b", "a"}, null, bad), api.ErrUtf)
			fails(t, vec(entry("a", vec(vec(bad), null)), null), api.ErrUtf)
		}
		isAsDescribed(t, vec(blob(s), entry("a", blob(s))))
	}
	fails(t, str("\x00\xff"), api.ErrUtf)
}

// P12.1: the parts of an encoding do not make valid UTF-8 together.
func TestSplitUtf(t *testing.T) {
	fails(t, vec(str("\xc3"), str("\xa9")), api.ErrUtf)
	fails(t, entry("\xc3", str("\xa9")), api.ErrUtf)
}

// P12.1: of several errors, that of tree.Check comes first, then ErrUtf, then ErrLimit.
func TestOrderOfErrors(t *testing.T) {
	long := []api.Node{str(filler(most)), name(filler(most)), blob(filler(most)), entry(filler(most), null), str(strings.Repeat("\x01", most/2)), vec(str(filler(most-10)), str(filler(most-10)))}
	bad := []api.Node{str("\xff"), name("\xff"), list(api.KKeys, name("\xff")), entry("\xff", null), vec(vec(str("\xff"))), entry("a", str("\xff")), str("\xff" + filler(most)), str(filler(most) + "\xff"), entry(filler(most)+"\xff", null)}
	for _, x := range long {
		fails(t, x, api.ErrLimit)
		fails(t, vec(null, x), api.ErrLimit)
		for _, y := range bad {
			fails(t, vec(x, y), api.ErrUtf)
			fails(t, vec(y, x), api.ErrUtf)
			fails(t, dict([]string{"a", "b"}, x, y), api.ErrUtf)
			fails(t, dict([]string{"a", "b"}, y, x), api.ErrUtf)
		}
	}
	for _, x := range invalidTrees() {
		fails(t, vec(long[0], x), tree.Check(vec(null, x)))
		fails(t, vec(bad[0], x), tree.Check(vec(null, x)))
		fails(t, dict([]string{"\xff", "a"}, long[4], x), tree.Check(dict([]string{"b", "a"}, null, x)))
	}
	fails(t, name("\xff\x00"), api.ErrKey)
	fails(t, dict([]string{"\xff", "\xff"}, null, null), api.ErrTwice)
	fails(t, entry("\x00\xff", null), api.ErrKey)
}

// P12.1: trees with a string that fills the text up to the limit, and with one that is longer.
func TestLimit(t *testing.T) {
	parts := mappings()
	for _, x := range []api.Node{null, vec(leaves()...), parts[len(parts)-1], nested(60), wide(1000), shared()} {
		for _, with := range []func(s string) api.Node{
			func(s string) api.Node { return vec(str(s), x) },
			func(s string) api.Node { return vec(x, name(s)) },
			func(s string) api.Node { return entry(s, x) },
			func(s string) api.Node { return dict([]string{"b", "a"}, str(s), x) },
		} {
			room := most - len(wantText(with("")))
			isAsDescribed(t, with(filler(room)))
			fails(t, with(filler(room+1)), api.ErrLimit)
			fails(t, with(filler(room-5)+"\x01"), api.ErrLimit)
		}
	}
}

// P12.1: leaves whose text has exactly the greatest length, or the next one.
func TestLimitOfLeaves(t *testing.T) {
	for _, leaf := range []func(s string) api.Node{str, name} {
		yields(t, leaf(filler(most-2)), `"`+filler(most-2)+`"`)
		fails(t, leaf(filler(most-1)), api.ErrLimit)
		fails(t, leaf(filler(most)), api.ErrLimit)
		fails(t, leaf(filler(most+1)), api.ErrLimit)
		escapes := strings.Repeat("\x01", (most-4)/6)
		isAsDescribed(t, leaf(escapes+"aa"))
		fails(t, leaf(escapes+"aaa"), api.ErrLimit)
		fails(t, leaf(escapes+"\x01"), api.ErrLimit)
		isAsDescribed(t, leaf(strings.Repeat("\n", most/2-1)))
		fails(t, leaf(strings.Repeat("\n", most/2-1)+"a"), api.ErrLimit)
		isAsDescribed(t, leaf(strings.Repeat("\u20ac", (most-2)/3)))
		isAsDescribed(t, leaf(strings.Repeat("\u20ac", (most-2)/3)+"\u00e9"))
		fails(t, leaf(strings.Repeat("\u20ac", (most-2)/3+1)), api.ErrLimit)
	}
	bytes := strings.Repeat("\x00\xff\x80", most/4-1)
	isAsDescribed(t, blob(bytes))
	isAsDescribed(t, blob(bytes[2:]))
	fails(t, blob(bytes+"\x00"), api.ErrLimit)
	fails(t, blob(filler(most)), api.ErrLimit)
	isAsDescribed(t, vec(blob(bytes)))
	isAsDescribed(t, list(api.KVec, blob(bytes[:len(bytes)-3]), num(12)))
}

// P12.1: the last byte of a text counts, whatever it belongs to.
func TestLimitOfLastBytes(t *testing.T) {
	for _, last := range []api.Node{null, truth(0), num(-12), uns(math.MaxUint64), str("ab"), name("\n"), blob("a"), vec(), dict(nil), vec(null, null), vec(vec(vec())), entry("k", num(1)), list(api.KBools, truth(1)), dict([]string{"k", "j"}, vec(), entry("", vec()))} {
		text := wantText(last)
		room := most - len(text) - len(`["",]`)
		yields(t, vec(str(filler(room)), last), `["`+filler(room)+`",`+text+"]")
		for more := 1; more <= len(text)+2; more++ {
			fails(t, vec(str(filler(room+more)), last), api.ErrLimit)
		}
	}
}

// R1: trees whose text would be many times as long as the limit; it is not made in part either.
func TestFarBeyondTheLimit(t *testing.T) {
	large := strings.Repeat("\x01", 1<<26)
	var before, after runtime.MemStats
	runtime.ReadMemStats(&before)
	for _, x := range []api.Node{str(large), name(large), blob(large), entry(large, null)} {
		fails(t, x, api.ErrLimit)
		fails(t, vec(x, x, x, x, x), api.ErrLimit)
	}
	fails(t, vec(str(large), name(large), str("\x80")), api.ErrUtf)
	runtime.ReadMemStats(&after)
	if used := after.TotalAlloc - before.TotalAlloc; used > 1<<24 {
		t.Errorf("%d bytes of memory for strings that do not fit", used)
	}
	piece := str(large[:most])
	many := vec()
	for range 1000 {
		many.L = append(many.L, piece)
	}
	fails(t, many, api.ErrLimit)
}

// R1: trees that are far too deep or far too wide.
func TestBeyondTheLimitsOfTrees(t *testing.T) {
	fails(t, nested(1<<16-1), api.ErrDeep)
	fails(t, wide(200000), api.ErrLimit)
	isAsDescribed(t, nested(63))
	isAsDescribed(t, wide(4095))
	fails(t, nested(64), api.ErrDeep)
	fails(t, wide(4096), api.ErrLimit)
}

// R4: empty slices in place of nil ones.
func TestEmptySlices(t *testing.T) {
	yields(t, api.Node{Kind: api.KMap, Keys: []string{}, L: []api.Node{}}, "{}")
	yields(t, api.Node{Kind: api.KInts, Keys: make([]string, 0, 3), L: make([]api.Node, 0, 2)}, "[]")
	yields(t, api.Node{Kind: api.KUint, U: 5, Keys: []string{}, L: []api.Node{}}, "5")
	yields(t, vec(api.Node{Kind: api.KStr, S: "a", Keys: []string{}, L: []api.Node{}}), `["a"]`)
}

// P12.2: neither the nodes nor the capacity behind them change, with an error or without.
func TestArgumentsAreKept(t *testing.T) {
	l := append(append(validTrees(), invalidTrees()...), shared(), vec(str("\xff"), dict([]string{"b", "a"}, null, num(1))), dict([]string{"b", "a", "\xff"}, str(filler(most)), num(1), null))
	for _, x := range l {
		before := clone(x)
		print.Print(x)
		if !tree.Same(whole(x), whole(before)) {
			t.Errorf("%s has changed to %s", short(before), short(x))
		}
	}
}

// R2: a result does not change with the next call.
func TestResultsAreKept(t *testing.T) {
	var texts []string
	for _, x := range validTrees() {
		s, _ := print.Print(x)
		texts = append(texts, s)
	}
	for i, x := range validTrees() {
		if want := wantText(x); texts[i] != want {
			t.Errorf("the text %s has changed to %s", strconv.Quote(want), strconv.Quote(texts[i]))
		}
	}
}
