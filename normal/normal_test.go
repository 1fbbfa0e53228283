package normal_test

import (
	"math"
	"reflect"
	"slices"
	"strconv"
	"testing"

	"accordion/api"
	"accordion/normal"
	"accordion/tree"
)

func num(n int64) api.Node                  { return api.Node{Kind: api.KInt, N: n} }
func indNum(n int64) api.Node               { return api.Node{Kind: api.KIndInt, N: n} }
func uns(n uint64) api.Node                 { return api.Node{Kind: api.KUint, U: n} }
func indUns(n uint64) api.Node              { return api.Node{Kind: api.KIndUint, U: n} }
func truth(n int64) api.Node                { return api.Node{Kind: api.KBool, N: n} }
func word(kind int, s string) api.Node      { return api.Node{Kind: kind, S: s} }
func list(kind int, l ...api.Node) api.Node { return api.Node{Kind: kind, L: l} }
func vec(l ...api.Node) api.Node            { return list(api.KVec, l...) }

func dict(keys []string, l ...api.Node) api.Node {
	return api.Node{Kind: api.KMap, Keys: keys, L: l}
}

// leaves holds nodes of all kinds without children; some of them represent the same value.
func leaves() []api.Node {
	l := []api.Node{{Kind: api.KNull}, truth(0), truth(1)}
	for _, n := range []int64{0, 1, -1, 5, 255, 256, math.MaxInt64, math.MaxInt64 - 1, math.MinInt64, math.MinInt64 + 1} {
		l = append(l, num(n), indNum(n))
	}
	for _, n := range []uint64{0, 1, 5, 255, 256, 1<<63 - 2, 1<<63 - 1, 1 << 63, 1<<63 + 1, math.MaxUint64 - 1, math.MaxUint64} {
		l = append(l, uns(n), indUns(n))
	}
	for _, s := range []string{"", "a", "b", "1", "null", "\xff\x01"} {
		l = append(l, word(api.KKey, s), word(api.KStr, s), word(api.KBlob, s))
	}
	return append(l, word(api.KStr, "a\x00"), word(api.KBlob, "\x00"))
}

// vectors holds vectors of all kinds; many of them represent the same value.
func vectors() []api.Node {
	var l []api.Node
	for _, kind := range []int{api.KVec, api.KInts, api.KUints, api.KKeys, api.KBools} {
		l = append(l, list(kind))
	}
	for _, numbers := range [][]int64{{1}, {1, 2}, {2, 1}, {0, 1, 2}, {1, 2, 3, 4}, {1, 2, 3, 4, 5}, {math.MaxInt64, 0}} {
		var signed, unsigned, mixed []api.Node
		for i, n := range numbers {
			signed, unsigned = append(signed, num(n)), append(unsigned, uns(uint64(n)))
			mixed = append(mixed, []api.Node{indNum(n), num(n), uns(uint64(n)), indUns(uint64(n))}[i%4])
		}
		l = append(l, vec(signed...), vec(unsigned...), vec(mixed...), list(api.KInts, signed...), list(api.KUints, unsigned...))
		if len(numbers) > 1 && len(numbers) < 5 {
			l = append(l, list(api.KFixInts, signed...), list(api.KFixUints, unsigned...))
		}
	}
	return append(l, vec(num(-1), num(math.MinInt64)), list(api.KFixInts, num(-1), num(math.MinInt64)),
		vec(uns(1<<63), uns(1)), list(api.KUints, uns(1<<63), uns(1)), list(api.KFixUints, uns(1<<63), uns(1)),
		list(api.KKeys, word(api.KKey, "b"), word(api.KKey, "a")), vec(word(api.KKey, "b"), word(api.KStr, "a")), vec(word(api.KStr, "a"), word(api.KStr, "b")), vec(word(api.KBlob, "b"), word(api.KBlob, "a")),
		list(api.KBools, truth(1), truth(0)), vec(truth(1), truth(0)), vec(num(1), num(0)), list(api.KInts, num(1), num(0)))
}

// mappings holds maps whose entries are in several orders.
func mappings() []api.Node {
	return []api.Node{
		dict(nil), dict([]string{""}, num(1)), dict([]string{""}, uns(1)), dict([]string{"1"}, num(1)),
		dict([]string{"a", "b"}, num(1), num(2)), dict([]string{"b", "a"}, uns(2), indNum(1)), dict([]string{"b", "a"}, num(1), num(2)),
		dict([]string{"b", "", "a"}, word(api.KKey, "x"), list(api.KFixInts, num(2), num(1)), truth(1)),
		dict([]string{"", "a", "b"}, vec(num(2), uns(1)), truth(1), word(api.KStr, "x")),
		dict([]string{"\u00e9", "z", "\xff", "Z", "a\x01", "a", "aa", "10", "9"}, num(0), num(1), num(2), uns(3), uns(4), uns(5), num(6), num(7), num(8)),
	}
}

// validTrees holds trees of every kind, alone and within others.
func validTrees() []api.Node {
	plain := slices.Concat(leaves(), vectors(), mappings())
	l := slices.Clone(plain)
	for i, x := range plain {
		y := plain[(i+17)%len(plain)]
		l = append(l, vec(x), vec(y, x), dict([]string{"n", "m"}, x, y), dict([]string{"m", "n"}, y, x), vec(dict([]string{"q"}, vec(x)), dict([]string{"z", "y"}, y, x)))
	}
	return l
}

// invalidTrees holds trees with an error of every kind, alone and within others.
func invalidTrees() []api.Node {
	l := []api.Node{
		{}, {Kind: 18}, {Kind: -1}, truth(2), truth(-1), {Kind: api.KInt, U: 1}, {Kind: api.KUint, N: 1}, {Kind: api.KIndInt, U: 5, N: 5}, {Kind: api.KIndUint, U: 5, N: 5},
		{Kind: api.KStr, S: "a", N: 1}, {Kind: api.KNull, L: []api.Node{num(1)}}, {Kind: api.KVec, Keys: []string{"a"}, L: []api.Node{num(1)}}, {Kind: api.KKey, S: "a", Keys: []string{"a"}},
		list(api.KFixInts, num(1)), list(api.KFixUints, uns(1), uns(1), uns(1), uns(1), uns(1)), list(api.KInts, word(api.KKey, "a")), list(api.KInts, uns(1)), list(api.KUints, num(1)), list(api.KKeys, word(api.KStr, "a")), list(api.KBools, num(1)),
		word(api.KKey, "a\x00"), dict([]string{"a\x00"}, num(1)), dict([]string{"a"}), dict(nil, num(1)), dict([]string{"b", "a", "b"}, num(1), num(2), num(1)),
	}
	for _, bad := range slices.Clone(l) {
		l = append(l, vec(uns(1), bad), dict([]string{"b", "a"}, uns(1), bad), dict([]string{"b"}, vec(dict([]string{"z", "y"}, bad, uns(1)))))
	}
	return append(l, nested(64), wide(4096))
}

// nested is a map in a vector in a map and so on, n of them around a number.
func nested(n int) api.Node {
	x := uns(7)
	for i := range n {
		if i%2 == 0 {
			x = dict([]string{"b", "a"}, x, indUns(1))
		} else {
			x = vec(x)
		}
	}
	return x
}

// wide is a map of n entries that are not in order.
func wide(n int) api.Node {
	const prime = 1000003
	x := dict(nil)
	for i := range n {
		x.Keys = append(x.Keys, strconv.Itoa((i+1)*7919%prime))
		x.L = append(x.L, uns(uint64(i)))
	}
	return x
}

func checkOf(t *testing.T, x, want api.Node, wantE api.Errno) {
	t.Helper()
	if got, e := normal.Of(x); e != wantE || !wantSame(got, want) {
		t.Errorf("Of(%s) = %s, %d; want %s, %d", short(x), short(got), e, short(want), wantE)
	}
}

func checkAlike(t *testing.T, a, b api.Node, want bool) {
	t.Helper()
	if is := normal.Alike(a, b); is != want {
		t.Errorf("Alike(%s; %s) = %t; want %t", short(a), short(b), is, want)
	}
}

// The table of the chapter's section 'Examples'.
func TestExamples(t *testing.T) {
	checkOf(t, uns(5), num(5), api.OK)
	checkOf(t, uns(1<<63), uns(1<<63), api.OK)
	checkOf(t, word(api.KKey, "a"), word(api.KStr, "a"), api.OK)
	checkOf(t, list(api.KFixInts, num(1), num(2)), vec(num(1), num(2)), api.OK)
	checkOf(t, dict([]string{"b", "a"}, uns(1), word(api.KKey, "x")), dict([]string{"a", "b"}, word(api.KStr, "x"), num(1)), api.OK)
	checkOf(t, api.Node{}, api.Node{}, api.ErrKind)
	checkAlike(t, vec(uns(1)), list(api.KInts, num(1)), true)
	checkAlike(t, num(1), word(api.KStr, "1"), false)
	checkAlike(t, api.Node{}, api.Node{}, false)
}

// P9.1: the kinds of numbers, on both sides of 2^63.
func TestOfNumbers(t *testing.T) {
	for _, n := range []uint64{0, 1, 127, 128, 255, 256, 1 << 31, 1 << 32, 1<<63 - 2, 1<<63 - 1} {
		checkOf(t, uns(n), num(int64(n)), api.OK)
		checkOf(t, indUns(n), num(int64(n)), api.OK)
	}
	for _, n := range []uint64{1 << 63, 1<<63 + 1, 1<<64 - 2, 1<<64 - 1} {
		checkOf(t, uns(n), uns(n), api.OK)
		checkOf(t, indUns(n), uns(n), api.OK)
	}
	for _, n := range []int64{math.MinInt64, math.MinInt64 + 1, -256, -1, 0, 1, 255, math.MaxInt64} {
		checkOf(t, num(n), num(n), api.OK)
		checkOf(t, indNum(n), num(n), api.OK)
	}
}

// P9.1: the kinds that are their own normal form, and keys.
func TestOfOtherLeaves(t *testing.T) {
	for _, x := range []api.Node{{Kind: api.KNull}, truth(0), truth(1), word(api.KStr, ""), word(api.KStr, "a\x00\xff"), word(api.KBlob, ""), word(api.KBlob, "a\x00")} {
		checkOf(t, x, x, api.OK)
	}
	for _, s := range []string{"", "a", "\xff\x01", "key"} {
		checkOf(t, word(api.KKey, s), word(api.KStr, s), api.OK)
	}
}

// P9.1: every kind of vector becomes a KVec, the children in their order.
func TestOfVectors(t *testing.T) {
	b, a := word(api.KKey, "b"), word(api.KKey, "a")
	checkOf(t, list(api.KKeys, b, a), vec(word(api.KStr, "b"), word(api.KStr, "a")), api.OK)
	checkOf(t, list(api.KBools, truth(1), truth(0)), vec(truth(1), truth(0)), api.OK)
	checkOf(t, list(api.KInts, num(2), num(-1)), vec(num(2), num(-1)), api.OK)
	checkOf(t, list(api.KUints, uns(2), uns(1<<63)), vec(num(2), uns(1<<63)), api.OK)
	checkOf(t, list(api.KFixUints, uns(3), uns(1<<63), uns(1)), vec(num(3), uns(1<<63), num(1)), api.OK)
	checkOf(t, list(api.KFixInts, num(3), num(1), num(2), num(3)), vec(num(3), num(1), num(2), num(3)), api.OK)
	for _, kind := range []int{api.KVec, api.KInts, api.KUints, api.KKeys, api.KBools} {
		checkOf(t, list(kind), vec(), api.OK)
	}
}

// P9.1: trees of every kind, alone and within others, against the chapter's table.
func TestOf(t *testing.T) {
	for _, x := range validTrees() {
		checkOf(t, x, wantForm(x), api.OK)
	}
}

// P9.1: invalid trees, with the error of tree.Check and nothing else.
func TestOfInvalidTrees(t *testing.T) {
	seen := map[api.Errno]bool{}
	for _, x := range invalidTrees() {
		want := tree.Check(x)
		if want == api.OK {
			t.Errorf("%s is valid", short(x))
		}
		seen[want] = true
		y, e := normal.Of(x)
		if e != want || !reflect.DeepEqual(y, api.Node{}) {
			t.Errorf("Of(%s) = %s, %d; want no node, %d", short(x), short(y), e, want)
		}
	}
	for _, e := range []api.Errno{api.ErrLimit, api.ErrKind, api.ErrDeep, api.ErrKey, api.ErrTwice} {
		if !seen[e] {
			t.Errorf("no tree with the error %d", e)
		}
	}
}

// P9.1: if there are several errors, the first one in preorder, not in the order of keys.
func TestOfReportsTheFirstError(t *testing.T) {
	zero, twice := word(api.KKey, "\x00"), dict([]string{"a", "a"}, num(1), num(1))
	checkOf(t, dict([]string{"b", "a"}, zero, twice), api.Node{}, api.ErrKey)
	checkOf(t, dict([]string{"b", "a"}, twice, zero), api.Node{}, api.ErrTwice)
	checkOf(t, vec(twice, api.Node{}), api.Node{}, api.ErrTwice)
	checkOf(t, vec(api.Node{}, twice), api.Node{}, api.ErrKind)
}

// P9.1: an error that the normal form would not have is still one.
func TestOfChecksTheTreeItself(t *testing.T) {
	checkOf(t, api.Node{Kind: api.KUint, U: 5, N: 7}, api.Node{}, api.ErrKind)
	checkOf(t, api.Node{Kind: api.KIndInt, U: 5, N: 7}, api.Node{}, api.ErrKind)
	checkOf(t, list(api.KFixInts, num(1), num(2), num(3), num(4), num(5)), api.Node{}, api.ErrKind)
	checkOf(t, list(api.KInts, uns(1)), api.Node{}, api.ErrKind)
	checkOf(t, list(api.KKeys, word(api.KStr, "a")), api.Node{}, api.ErrKind)
	checkOf(t, word(api.KKey, "a\x00"), api.Node{}, api.ErrKey)
}

// P9.1: the greatest valid trees, and those one beyond them.
func TestOfAtTheLimits(t *testing.T) {
	checkOf(t, nested(63), wantForm(nested(63)), api.OK)
	checkOf(t, nested(64), api.Node{}, api.ErrDeep)
	checkOf(t, wide(4095), wantForm(wide(4095)), api.OK)
	checkOf(t, wide(4096), api.Node{}, api.ErrLimit)
	checkAlike(t, nested(63), wantForm(nested(63)), true)
	checkAlike(t, nested(64), wantForm(nested(64)), false)
	checkAlike(t, wide(4095), wantForm(wide(4095)), true)
	checkAlike(t, wide(4096), wide(4096), false)
}

// P9.1: all pairs of plain trees are equivalent exactly if they represent the same value.
func TestAlike(t *testing.T) {
	plain := slices.Concat(leaves(), vectors(), mappings())
	for _, a := range plain {
		for _, b := range plain {
			want := value(a) == value(b)
			checkAlike(t, a, b, want)
			checkAlike(t, dict([]string{"y", "x"}, a, vec(b)), dict([]string{"x", "y"}, vec(a), b), want)
		}
	}
}

// P9.1: differences that are not differences of tagging.
func TestAlikeOfDifferentValues(t *testing.T) {
	checkAlike(t, truth(1), num(1), false)
	checkAlike(t, truth(0), api.Node{Kind: api.KNull}, false)
	checkAlike(t, word(api.KStr, "a"), word(api.KBlob, "a"), false)
	checkAlike(t, word(api.KKey, "a"), word(api.KBlob, "a"), false)
	checkAlike(t, uns(math.MaxUint64), num(-1), false)
	checkAlike(t, uns(1<<63), num(math.MinInt64), false)
	checkAlike(t, vec(), dict(nil), false)
	checkAlike(t, vec(num(1), num(2)), vec(num(2), num(1)), false)
	checkAlike(t, vec(num(1)), vec(num(1), num(1)), false)
	checkAlike(t, vec(num(1)), num(1), false)
	checkAlike(t, dict([]string{"a"}, num(1)), dict([]string{"b"}, num(1)), false)
	checkAlike(t, dict([]string{"a", "b"}, num(1), num(2)), dict([]string{"a", "b"}, num(2), num(1)), false)
	checkAlike(t, dict([]string{"a", "b"}, num(1), num(2)), dict([]string{"a"}, num(1)), false)
}

// P9.1: an invalid tree is equivalent to none: not to itself, and not to a valid one on either side.
func TestAlikeOfInvalidTrees(t *testing.T) {
	for _, bad := range invalidTrees() {
		checkAlike(t, bad, clone(bad), false)
		for _, x := range []api.Node{{Kind: api.KNull}, num(5), vec(), dict(nil), word(api.KStr, "a")} {
			checkAlike(t, bad, x, false)
			checkAlike(t, x, bad, false)
		}
	}
	checkAlike(t, api.Node{Kind: api.KUint, U: 5, N: 1}, num(5), false)
	checkAlike(t, num(5), api.Node{Kind: api.KUint, U: 5, N: 1}, false)
	checkAlike(t, list(api.KInts, uns(1)), vec(num(1)), false)
	checkAlike(t, vec(num(1)), list(api.KInts, uns(1)), false)
}

// R1: trees that are far too deep or far too wide.
func TestBeyondTheLimits(t *testing.T) {
	deep, broad := nested(1<<16-1), wide(200000)
	checkOf(t, deep, api.Node{}, api.ErrDeep)
	checkOf(t, broad, api.Node{}, api.ErrLimit)
	checkAlike(t, deep, deep, false)
	checkAlike(t, num(1), deep, false)
	checkAlike(t, broad, num(1), false)
}

// R4: empty slices in place of nil ones.
func TestEmptySlices(t *testing.T) {
	x := api.Node{Kind: api.KMap, Keys: []string{}, L: []api.Node{}}
	y := api.Node{Kind: api.KInts, Keys: make([]string, 0, 3), L: make([]api.Node, 0, 2)}
	z := api.Node{Kind: api.KUint, U: 5, Keys: []string{}, L: []api.Node{}}
	checkOf(t, x, dict(nil), api.OK)
	checkOf(t, y, vec(), api.OK)
	checkOf(t, z, num(5), api.OK)
	checkAlike(t, x, dict(nil), true)
	checkAlike(t, vec(), y, true)
	checkAlike(t, z, num(5), true)
	checkAlike(t, list(api.KUints, z), vec(num(5)), true)
}
