package key_test

import (
	"math"
	"reflect"
	"slices"
	"strconv"
	"strings"
	"testing"

	"accordion/api"
	"accordion/key"
	"accordion/tree"
)

func num(n int64) api.Node                  { return api.Node{Kind: api.KInt, N: n} }
func word(kind int, s string) api.Node      { return api.Node{Kind: kind, S: s} }
func list(kind int, l ...api.Node) api.Node { return api.Node{Kind: kind, L: l} }
func vec(l ...api.Node) api.Node            { return list(api.KVec, l...) }

func dict(keys []string, l ...api.Node) api.Node {
	return api.Node{Kind: api.KMap, Keys: keys, L: l}
}

// numbered is a map whose values are the numbers of its entries, so that each value tells where its key was.
func numbered(keys ...string) api.Node {
	l := make([]api.Node, len(keys))
	for i := range l {
		l[i] = num(int64(i))
	}
	return dict(slices.Clone(keys), l...)
}

// validTrees holds trees of every kind, with maps in every place where there may be one.
func validTrees() []api.Node {
	keys := list(api.KKeys, word(api.KKey, "b"), word(api.KKey, "a"), word(api.KKey, "b"))
	inner := dict([]string{"y", "x", ""}, numbered("q", "p"), keys, vec(numbered("2", "1", "10"), num(5), dict(nil)))
	return []api.Node{
		{Kind: api.KNull}, {Kind: api.KBool, N: 1}, num(math.MinInt64), {Kind: api.KUint, U: math.MaxUint64},
		{Kind: api.KIndInt, N: -1}, {Kind: api.KIndUint, U: 1 << 63},
		word(api.KKey, "\xff\x01"), word(api.KStr, "ba\x00"), word(api.KBlob, "\x00\xff"),
		vec(), vec(num(2), num(1)), keys,
		list(api.KInts, num(3), num(1), num(2)), list(api.KUints, api.Node{Kind: api.KUint, U: 2}, api.Node{Kind: api.KUint, U: 1}),
		list(api.KBools, api.Node{Kind: api.KBool, N: 1}, api.Node{Kind: api.KBool}),
		list(api.KFixInts, num(2), num(1)), list(api.KFixUints, api.Node{Kind: api.KUint, U: 2}, api.Node{Kind: api.KUint, U: 1}, api.Node{Kind: api.KUint}),
		dict(nil), numbered(""), numbered("a"), numbered("a", "b"), numbered("b", "a"), numbered("b", "", "a"), numbered(shuffled(100)...),
		numbered("\u00e9", "z", "\xff", "Z", "a\x01", "a", "aa", "10", "9", "\xed\xa0\x80", "\U00010000", "\ufffd"),
		inner, vec(inner, num(1), inner), dict([]string{"n", "m", "l"}, inner, dict([]string{"b", "a"}, inner, numbered("d", "c")), vec(vec(inner))),
	}
}

// invalidTrees holds trees with an error of every kind, below maps that are not sorted.
func invalidTrees() []api.Node {
	l := []api.Node{
		{}, {Kind: 18}, {Kind: -1}, {Kind: api.KBool, N: 2}, {Kind: api.KInt, S: "a"}, {Kind: api.KVec, Keys: []string{"a"}, L: []api.Node{num(1)}},
		list(api.KFixInts, num(1)), list(api.KInts, word(api.KKey, "a")), word(api.KKey, "a\x00"),
		dict([]string{"a"}), dict(nil, num(1)), dict([]string{"b", "a", "c"}, num(1), num(2)), dict([]string{"b"}, num(1), num(2)),
		dict([]string{"b", "a\x00"}, num(1), num(2)), dict([]string{"b", "a", "b"}, num(1), num(2), num(3)), dict([]string{"", ""}, num(1), num(1)),
	}
	for _, bad := range slices.Clone(l) {
		l = append(l, vec(numbered("b", "a"), bad), dict([]string{"b", "a"}, numbered("d", "c"), bad), dict([]string{"b", "a"}, dict([]string{"z"}, bad), word(api.KStr, "s")))
	}
	return append(l, nested(64), wideMap(4096))
}

// nested is a map in a map and so on, n of them around a number, each with another entry.
func nested(n int) api.Node {
	x := num(7)
	for range n {
		x = dict([]string{"b", "a"}, x, num(1))
	}
	return x
}

// wideMap is a map of n entries that are not in order.
func wideMap(n int) api.Node {
	return numbered(shuffled(n)...)
}

func checkSorted(t *testing.T, x, want api.Node, wantE api.Errno) {
	t.Helper()
	if got, e := key.Sorted(x); e != wantE || !wantSame(got, want) {
		t.Errorf("Sorted(%s) = %s, %d; want %s, %d", short(x), short(got), e, short(want), wantE)
	}
}

// The rows of the chapter's section 'Examples' on Sorted.
func TestExamplesOfSorted(t *testing.T) {
	x := vec(dict([]string{"b", "a"}, num(5), dict([]string{"d", "c"}, num(1), num(2))))
	want := vec(dict([]string{"a", "b"}, dict([]string{"c", "d"}, num(2), num(1)), num(5)))
	checkSorted(t, x, want, api.OK)
	checkSorted(t, dict([]string{"a", "a"}, num(5), num(5)), api.Node{}, api.ErrTwice)
}

// P7.4: trees of every kind; maps at the root, in vectors and in maps.
func TestSorted(t *testing.T) {
	for _, x := range validTrees() {
		checkSorted(t, x, wantSorted(x), api.OK)
		checkSorted(t, vec(x, x), wantSorted(vec(x, x)), api.OK)
		for _, y := range validTrees() {
			z := dict([]string{"m", "l"}, x, y)
			checkSorted(t, z, wantSorted(z), api.OK)
		}
	}
}

// P7.4: the result is sorted as the chapter defines it, and each value is still at its key.
func TestSortedIsSorted(t *testing.T) {
	for _, x := range append(validTrees(), wideMap(500)) {
		y, _ := key.Sorted(x)
		if !isSorted(y) {
			t.Errorf("Sorted(%s) = %s is not sorted", short(x), short(y))
		}
	}
	x := wideMap(4095)
	y, _ := key.Sorted(x)
	for i, k := range y.Keys {
		if x.Keys[y.L[i].N] != k {
			t.Fatalf("the value of %q is not that of its key", k)
		}
	}
}

// P7.4: invalid trees, with the error of tree.Check and nothing else.
func TestSortedOfInvalidTrees(t *testing.T) {
	seen := map[api.Errno]bool{}
	for _, x := range invalidTrees() {
		want := tree.Check(x)
		if want == api.OK {
			t.Errorf("%s is valid", short(x))
		}
		seen[want] = true
		y, e := key.Sorted(x)
		if e != want || !reflect.DeepEqual(y, api.Node{}) {
			t.Errorf("Sorted(%s) = %s, %d; want no node, %d", short(x), short(y), e, want)
		}
	}
	for _, e := range []api.Errno{api.ErrLimit, api.ErrKind, api.ErrDeep, api.ErrKey, api.ErrTwice} {
		if !seen[e] {
			t.Errorf("no tree with the error %d", e)
		}
	}
}

// P7.4: if there are several errors, the first one in preorder, not in the order of keys.
func TestSortedReportsTheFirstError(t *testing.T) {
	zero, twice := word(api.KKey, "\x00"), dict([]string{"a", "a"}, num(1), num(1))
	checkSorted(t, dict([]string{"b", "a"}, zero, twice), api.Node{}, api.ErrKey)
	checkSorted(t, dict([]string{"b", "a"}, twice, zero), api.Node{}, api.ErrTwice)
	checkSorted(t, dict([]string{"b", "a", "\x00", "a"}, zero, zero, zero, zero), api.Node{}, api.ErrKey)
	checkSorted(t, dict([]string{"b", "b", "\x00", "a"}, zero, zero, zero, zero), api.Node{}, api.ErrTwice)
	checkSorted(t, vec(twice, api.Node{}), api.Node{}, api.ErrTwice)
	checkSorted(t, vec(api.Node{}, twice), api.Node{}, api.ErrKind)
}

// P7.4: the greatest valid trees, and those one beyond them.
func TestSortedAtTheLimits(t *testing.T) {
	checkSorted(t, nested(63), wantSorted(nested(63)), api.OK)
	checkSorted(t, nested(64), api.Node{}, api.ErrDeep)
	y, e := key.Sorted(wideMap(4095))
	if len(y.Keys) != 4095 || e != api.OK || !isSorted(y) {
		t.Errorf("Sorted of 4095 entries = %s, %d", short(y), e)
	}
	checkSorted(t, wideMap(4096), api.Node{}, api.ErrLimit)
}

// R1: trees that are far too deep or far too wide.
func TestSortedBeyondTheLimits(t *testing.T) {
	checkSorted(t, nested(1<<16-1), api.Node{}, api.ErrDeep)
	checkSorted(t, wideMap(200000), api.Node{}, api.ErrLimit)
}

// R4: empty slices in place of nil ones.
func TestSortedOfEmptySlices(t *testing.T) {
	x := api.Node{Kind: api.KMap, Keys: []string{}, L: []api.Node{}}
	y := api.Node{Kind: api.KVec, Keys: make([]string, 0, 3), L: []api.Node{{Kind: api.KStr, Keys: []string{}, L: []api.Node{}}}}
	checkSorted(t, x, dict(nil), api.OK)
	checkSorted(t, y, vec(word(api.KStr, "")), api.OK)
	checkSorted(t, dict([]string{"b", "a"}, x, y), dict([]string{"a", "b"}, vec(word(api.KStr, "")), dict(nil)), api.OK)
}

// shared is a valid tree whose slices have unused capacity and belong to several nodes.
func shared() api.Node {
	keys := []string{"c", "b", "a", "unused"}
	l := []api.Node{num(1), vec(num(2)), word(api.KStr, "text"), num(3)}
	inner := dict(keys[:2], l[:2]...)
	inner.L = l[:2]
	outer := dict(keys[1:3], inner, inner)
	return list(api.KVec, outer, inner, word(api.KKey, keys[0]), inner)
}

// P7.5: neither the nodes nor the capacity behind them change, with an error or without.
func TestTreesAreKept(t *testing.T) {
	for _, x := range append(append(validTrees(), invalidTrees()...), shared()) {
		before := clone(x)
		key.Sorted(x)
		if !wantSame(whole(x), whole(before)) {
			t.Errorf("%s has changed to %s", short(before), short(x))
		}
	}
}

// memory counts, for each address at which a tree keeps keys, children or text, how often it does so.
func memory(t api.Node, at map[uintptr]int) {
	if cap(t.Keys) > 0 {
		at[reflect.ValueOf(t.Keys).Pointer()]++
	}
	if cap(t.L) > 0 {
		at[reflect.ValueOf(t.L).Pointer()]++
	}
	for _, s := range append([]string{t.S}, t.Keys...) {
		if s != "" {
			at[reflect.ValueOf(s).Pointer()]++
		}
	}
	for _, child := range t.L {
		memory(child, at)
	}
}

// P7.5: results share no memory with the argument, and no two parts of a result share any, even if parts of the argument do.
func TestSortedTreesAreNewMemory(t *testing.T) {
	for _, x := range append(validTrees(), shared()) {
		taken, used := map[uintptr]int{}, map[uintptr]int{}
		memory(x, taken)
		y, _ := key.Sorted(x)
		memory(y, used)
		for at, times := range used {
			if times > 1 || taken[at] > 0 {
				t.Errorf("Sorted(%s): memory used %d times, by the argument %d times", short(x), times, taken[at])
			}
		}
	}
}

// scribble overwrites all of a tree but its root, unused capacity included.
func scribble(t api.Node) {
	keys, l := t.Keys[:cap(t.Keys)], t.L[:cap(t.L)]
	for i := range keys {
		keys[i] = "!"
	}
	for i := range l {
		scribble(l[i])
		l[i] = word(api.KStr, "!")
	}
}

// P7.5: changes of a result do not show in the argument or in another result.
func TestSortedTreesMayBeChanged(t *testing.T) {
	for _, x := range append(validTrees(), shared()) {
		before := clone(x)
		kept, _ := key.Sorted(x)
		y, _ := key.Sorted(x)
		scribble(y)
		if !wantSame(whole(x), whole(before)) || !wantSame(kept, wantSorted(before)) {
			t.Errorf("a change of a result shows in %s", short(before))
		}
	}
}

// P7.8: sorting a sorted tree changes nothing.
func TestSortedIsIdempotent(t *testing.T) {
	for _, x := range append(validTrees(), nested(63), wideMap(4095)) {
		y, _ := key.Sorted(x)
		if z, e := key.Sorted(y); e != api.OK || !wantSame(y, z) {
			t.Errorf("Sorted(%s) = %s, %d", short(y), short(z), e)
		}
	}
}

// eachPermutation calls use with all orders of a list.
func eachPermutation(l []string, use func(l []string)) {
	if len(l) == 0 {
		use(nil)
	}
	for i := range l {
		rest := slices.Concat(l[:i], l[i+1:])
		eachPermutation(rest, func(m []string) { use(append([]string{l[i]}, m...)) })
	}
}

// P7.8: all orders of the entries of a map, and of a map within it.
func TestSortedForgetsTheOrder(t *testing.T) {
	keys := []string{"", "a", "ab", "b", "\xff"}
	inner := []string{"x", "X", "1"}
	value := func(k string, order []string) api.Node {
		if k != "ab" {
			return word(api.KStr, "value of "+k)
		}
		l := make([]api.Node, len(order))
		for i, name := range order {
			l[i] = word(api.KBlob, name)
		}
		return vec(dict(order, l...))
	}
	build := func(keys, order []string) api.Node {
		l := make([]api.Node, len(keys))
		for i, k := range keys {
			l[i] = value(k, order)
		}
		return dict(keys, l...)
	}
	want := build(keys, []string{"1", "X", "x"})
	eachPermutation(inner, func(order []string) {
		eachPermutation(keys, func(keys []string) {
			checkSorted(t, build(keys, order), want, api.OK)
		})
	})
}

// P7.8: long maps whose entries are rotated and reversed.
func TestSortedForgetsTheOrderOfLongMaps(t *testing.T) {
	const many = 60
	entries := shuffled(many)
	build := func(keys []string) api.Node {
		l := make([]api.Node, many)
		for i, k := range keys {
			n, _ := strconv.ParseInt(k, 10, 64)
			l[i] = vec(num(n), word(api.KStr, strings.Repeat(k, 2)))
		}
		return dict(keys, l...)
	}
	want, _ := key.Sorted(build(entries))
	for n := range many {
		keys := slices.Concat(entries[n:], entries[:n])
		checkSorted(t, build(keys), want, api.OK)
		slices.Reverse(keys)
		checkSorted(t, build(keys), want, api.OK)
	}
}
