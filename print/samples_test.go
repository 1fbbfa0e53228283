package print_test

import (
	"math"
	"slices"
	"strconv"
	"strings"

	"accordion/api"
)

func num(n int64) api.Node                  { return api.Node{Kind: api.KInt, N: n} }
func indNum(n int64) api.Node               { return api.Node{Kind: api.KIndInt, N: n} }
func uns(n uint64) api.Node                 { return api.Node{Kind: api.KUint, U: n} }
func indUns(n uint64) api.Node              { return api.Node{Kind: api.KIndUint, U: n} }
func truth(n int64) api.Node                { return api.Node{Kind: api.KBool, N: n} }
func str(s string) api.Node                 { return api.Node{Kind: api.KStr, S: s} }
func name(s string) api.Node                { return api.Node{Kind: api.KKey, S: s} }
func blob(s string) api.Node                { return api.Node{Kind: api.KBlob, S: s} }
func list(kind int, l ...api.Node) api.Node { return api.Node{Kind: kind, L: l} }
func vec(l ...api.Node) api.Node            { return list(api.KVec, l...) }

func dict(keys []string, l ...api.Node) api.Node {
	return api.Node{Kind: api.KMap, Keys: keys, L: l}
}

// entry is a map of one entry.
func entry(k string, value api.Node) api.Node {
	return dict([]string{k}, value)
}

var null = api.Node{Kind: api.KNull}

// words holds strings that are valid UTF-8 and, as keys too, valid.
var words = []string{
	"", "a", "b", "ab", "a!", "a ", " a  b ", "A", "z", "1", "null", "10", "9", "-0", `"`, `""`, `\`, `\\`, "/", `\u0000`, `a"b`, "#", "[1, 2]", `{"a": 1}`, ",", ":",
	"\x01", "\x07", "\b", "\t", "\n", "\x0b", "\f", "\r", "\x0e", "\x1f", "\r\n", " ", "\x7f", "<&>'", "=", "Zm9v",
	"\u0080", "\u00e9", "\u07ff", "\u0800", "\u20ac", "\u2028\u2029", "\ud7ff", "\ue000", "\ufeff", "\ufffd", "\uffff", "\U00010000", "\U0001f600", "\U0010ffff", "e\u0301", "\u00e9 / \n",
}

// broken holds strings that are not valid UTF-8, none of which has the byte 00.
var broken = []string{
	"\xff", "\x80", "\xc3", "\xe2\x82", "\xf0\x9f\x98", "\xc0\x80", "\xc1\xbf", "\xe0\x9f\xbf", "\xed\xa0\x80", "\xed\xbf\xbf", "\xf0\x8f\xbf\xbf", "\xf4\x90\x80\x80", "\xf8\x88\x80\x80\x80", "\xc3\xa9\x80",
	"a\xff", "\xffa", "a\xc3b", "\u20ac\xe2\x82\u20ac", "\n\xfe\"",
}

// leaves holds nodes of all kinds without children.
func leaves() []api.Node {
	l := []api.Node{null, truth(0), truth(1), str("a\x00"), str("\x00"), blob("\x00\x00\x00"), blob("foo"), blob("foof"), blob("\xfb\xef\xbe\xff")}
	for _, n := range []int64{0, 1, -1, 7, -9, 10, -10, 100, 255, -1000, 1234567890, math.MaxInt32, math.MinInt32, math.MaxInt64 - 1, math.MaxInt64, math.MinInt64 + 1, math.MinInt64} {
		l = append(l, num(n), indNum(n))
	}
	for _, n := range []uint64{0, 1, 7, 10, 255, 1000, 1 << 32, 1<<63 - 1, 1 << 63, 1<<63 + 1, math.MaxUint64 - 1, math.MaxUint64} {
		l = append(l, uns(n), indUns(n))
	}
	for _, s := range words {
		l = append(l, str(s), name(s), blob(s))
	}
	for _, s := range broken {
		l = append(l, blob(s))
	}
	return l
}

// vectors holds vectors of all kinds.
func vectors() []api.Node {
	var l []api.Node
	for _, kind := range []int{api.KVec, api.KInts, api.KUints, api.KKeys, api.KBools} {
		l = append(l, list(kind))
	}
	for n := 1; n <= 5; n++ {
		var signed, unsigned, names, truths []api.Node
		for i := range n {
			signed, unsigned = append(signed, num(int64(5-3*i))), append(unsigned, uns(uint64(i)<<(13*i)))
			names, truths = append(names, name(words[(7*n+i)%len(words)])), append(truths, truth(int64((n+i)%2)))
		}
		l = append(l, list(api.KInts, signed...), list(api.KUints, unsigned...), list(api.KKeys, names...), list(api.KBools, truths...), vec(signed...), vec(unsigned...), vec(names...), vec(truths...))
		if n >= 2 && n <= 4 {
			l = append(l, list(api.KFixInts, signed...), list(api.KFixUints, unsigned...))
		}
	}
	return append(l, vec(leaves()...), vec(vec(), vec(vec(), null), vec()), vec(dict(nil), dict(nil)), list(api.KUints, uns(math.MaxUint64), uns(0)), list(api.KFixInts, num(math.MinInt64), num(-1)))
}

// mappings holds maps whose entries are in several orders; some of them represent the same value.
func mappings() []api.Node {
	l := []api.Node{
		dict(nil), entry("", num(1)), entry("", uns(1)), entry("1", num(1)), entry("a", vec()), entry(`"`, entry("\n", dict(nil))),
		dict([]string{"a", "b"}, num(1), num(2)), dict([]string{"b", "a"}, uns(2), indNum(1)), dict([]string{"b", "a"}, num(1), num(2)),
		dict([]string{"b", "", "a"}, name("x"), list(api.KFixInts, num(2), num(1)), truth(1)),
		dict([]string{"", "a", "b"}, vec(num(2), uns(1)), truth(1), str("x")),
		dict([]string{"a", "b"}, dict([]string{"b", "a"}, null, truth(0)), dict([]string{"z", "y", "x"}, null, vec(null), entry("k", null))),
	}
	for from := range 5 {
		var keys []string
		var values []api.Node
		for i := range words {
			keys = append(keys, words[(i*17+from*11)%len(words)])
			values = append(values, num(int64(i)))
		}
		l = append(l, dict(keys, values...))
	}
	return l
}

func plainTrees() []api.Node {
	return slices.Concat(leaves(), vectors(), mappings())
}

// validTrees holds trees of every kind, alone and within others.
func validTrees() []api.Node {
	plain := plainTrees()
	l := slices.Clone(plain)
	for i, x := range plain {
		y := plain[(i+17)%len(plain)]
		l = append(l, vec(x), vec(y, x), dict([]string{"n", "m"}, x, y), dict([]string{"m", "n"}, y, x), vec(entry("q", vec(x)), dict([]string{"z", "y"}, y, x)))
	}
	return l
}

// invalidTrees holds trees with an error of every kind, alone and within others.
func invalidTrees() []api.Node {
	l := []api.Node{
		{}, {Kind: 18}, {Kind: -1}, truth(2), truth(-1), {Kind: api.KInt, U: 1}, {Kind: api.KUint, N: 1}, {Kind: api.KIndInt, U: 5, N: 5}, {Kind: api.KIndUint, U: 5, N: 5},
		{Kind: api.KStr, S: "a", N: 1}, {Kind: api.KNull, L: []api.Node{null}}, {Kind: api.KVec, Keys: []string{"a"}, L: []api.Node{null}}, {Kind: api.KBlob, S: "a", Keys: []string{"a"}},
		list(api.KFixInts, num(1)), list(api.KFixUints, uns(1), uns(1), uns(1), uns(1), uns(1)), list(api.KInts, name("a")), list(api.KUints, num(1)), list(api.KKeys, str("a")), list(api.KBools, null),
		name("a\x00"), entry("a\x00", null), dict([]string{"a"}), dict(nil, null), dict([]string{"b", "a", "b"}, null, null, null),
	}
	for _, bad := range slices.Clone(l) {
		l = append(l, vec(null, bad), dict([]string{"b", "a"}, null, bad), entry("b", vec(dict([]string{"z", "y"}, bad, null))))
	}
	return append(l, nested(64), wide(4096))
}

// nested is a map in a vector in a map and so on, n of them around a number.
func nested(n int) api.Node {
	x := uns(7)
	for i := range n {
		if i%2 == 0 {
			x = dict([]string{"b", "a"}, x, indUns(1))
		} else {
			x = vec(x)
		}
	}
	return x
}

// wide is a map of n entries that are not in order.
func wide(n int) api.Node {
	const prime = 1000003
	x := dict(nil)
	for i := range n {
		x.Keys = append(x.Keys, strconv.Itoa((i+1)*7919%prime))
		x.L = append(x.L, uns(uint64(i)))
	}
	return x
}

// shared is a valid tree whose slices have unused capacity and belong to several nodes.
func shared() api.Node {
	keys := []string{"c", "b", "a", "unused"}
	l := []api.Node{uns(1), list(api.KUints, uns(2)), name("text"), indNum(3)}
	inner := dict(keys[:2], null, null)
	inner.L = l[:2]
	ints := list(api.KFixUints)
	ints.L = []api.Node{uns(1), uns(2), uns(3)}[:2]
	return vec(dict(keys[1:3], inner, inner), inner, name(keys[0]), str(keys[0]), inner, ints, ints)
}

// filler is a string of n bytes, each of which stands for itself in a literal.
func filler(n int) string {
	return strings.Repeat("f", n)
}
