package tree_test

import (
	"math"
	"reflect"
	"testing"

	"accordion/api"
	"accordion/tree"
)

// notKinds holds neighbours of the kinds, and numbers that would pass for kinds if they lost their upper bits.
var notKinds = []int{math.MinInt, math.MinInt + 10, -256, -10, -1, 0, 18, 19, 36, 256 + 10, 1<<16 + 10, 1<<32 + 10, 1<<62 + 10, math.MaxInt}

func num(n int64) api.Node             { return api.Node{Kind: api.KInt, N: n} }
func unsigned(u uint64) api.Node       { return api.Node{Kind: api.KUint, U: u} }
func boolean(n int64) api.Node         { return api.Node{Kind: api.KBool, N: n} }
func word(kind int, s string) api.Node { return api.Node{Kind: kind, S: s} }

func list(kind int, l ...api.Node) api.Node { return api.Node{Kind: kind, L: l} }
func vec(l ...api.Node) api.Node            { return list(api.KVec, l...) }

func dict(keys []string, l ...api.Node) api.Node {
	return api.Node{Kind: api.KMap, Keys: keys, L: l}
}

// nested is a node within a number of vectors.
func nested(n int, t api.Node) api.Node {
	for range n {
		t = vec(t)
	}
	return t
}

// wide is a vector with a number of equal children.
func wide(n int, child api.Node) api.Node {
	l := make([]api.Node, n)
	for i := range l {
		l[i] = child
	}
	return vec(l...)
}

// validTrees holds trees of every kind, no two of them equal.
func validTrees() []api.Node {
	return []api.Node{
		{Kind: api.KNull}, boolean(0), boolean(1),
		num(0), num(1), num(-1), num(math.MinInt64), num(math.MaxInt64),
		{Kind: api.KIndInt}, {Kind: api.KIndInt, N: math.MinInt64}, {Kind: api.KIndInt, N: 1},
		unsigned(0), unsigned(1), unsigned(math.MaxUint64),
		{Kind: api.KIndUint}, {Kind: api.KIndUint, U: math.MaxUint64}, {Kind: api.KIndUint, U: 1},
		word(api.KKey, ""), word(api.KKey, "a"), word(api.KKey, "\xff\x01"),
		word(api.KStr, ""), word(api.KStr, "a"), word(api.KStr, "\x00"), word(api.KStr, "\xff\x00\xc3"),
		word(api.KBlob, ""), word(api.KBlob, "a"), word(api.KBlob, "\x00\x00"),
		vec(), vec(num(5)), vec(vec()), vec(vec(), vec()), vec(vec(vec())), vec(num(5), word(api.KKey, "a")),
		vec(num(5), vec(num(6), num(7)), num(8)), vec(num(5), vec(num(6)), num(7), num(8)),
		list(api.KInts), list(api.KInts, num(1)), list(api.KInts, num(1), num(2)), list(api.KInts, num(2), num(1)),
		list(api.KUints), list(api.KUints, unsigned(1), unsigned(1), unsigned(1), unsigned(1), unsigned(1)),
		list(api.KKeys), list(api.KKeys, word(api.KKey, "b"), word(api.KKey, "a"), word(api.KKey, "b")),
		list(api.KBools), list(api.KBools, boolean(1), boolean(0)),
		list(api.KFixInts, num(1), num(2)), list(api.KFixInts, num(1), num(2), num(3)), list(api.KFixInts, num(1), num(2), num(3), num(4)),
		list(api.KFixUints, unsigned(1), unsigned(2)), list(api.KFixUints, unsigned(1), unsigned(2), unsigned(3), unsigned(4)),
		dict(nil), dict([]string{""}, num(1)), dict([]string{"a"}, num(1)),
		dict([]string{"b", "a"}, num(1), num(2)), dict([]string{"a", "b"}, num(1), num(2)), dict([]string{"a", "b"}, num(2), num(1)),
		dict([]string{"x", "", "y"}, dict([]string{"x"}, vec(num(1))), vec(dict(nil)), list(api.KInts, num(1))),
	}
}

// invalidTrees holds trees with errors of every kind, no two of them equal.
func invalidTrees() []api.Node {
	l := []api.Node{
		{}, {Kind: 18}, {Kind: -1, L: []api.Node{num(1)}}, boolean(2), {Kind: api.KInt, S: "a"}, {Kind: api.KNull, Keys: []string{"a"}},
		list(api.KFixInts, num(1)), list(api.KInts, word(api.KKey, "a")), word(api.KKey, "a\x00"), list(api.KStr, vec(num(1))),
		dict([]string{"a"}), dict(nil, num(1)), dict([]string{"a", "a"}, num(5), num(5)), dict([]string{"\x00"}, num(1)),
		{Kind: 10, N: 1, U: 2, S: "s", Keys: []string{"k", "k"}, L: []api.Node{{Kind: 99, Keys: []string{"l"}}, vec()}},
	}
	return append(l, nested(64, vec()), nested(70, boolean(3)), wide(4096, num(1)))
}

func allTrees() []api.Node {
	return append(validTrees(), invalidTrees()...)
}

// smallTrees holds all vectors of up to two of the given trees, and maps with them as values.
func smallTrees(parts []api.Node) []api.Node {
	l := []api.Node{vec()}
	for _, a := range parts {
		l = append(l, vec(a), dict([]string{"a"}, a))
		for _, b := range parts {
			l = append(l, vec(a, b))
		}
	}
	return l
}

func checkAt(t *testing.T, x api.Node, n int, want api.Node, wantIs bool) {
	t.Helper()
	if got, is := tree.At(x, n); is != wantIs || !wantSame(got, want) {
		t.Errorf("At(%s, %d) = %s, %t; want %s, %t", short(x), n, short(got), is, short(want), wantIs)
	}
}

// checkNodes compares Size, Deep and At with a list of the nodes.
func checkNodes(t *testing.T, x api.Node) {
	t.Helper()
	all := preorder(x)
	deepest := 0
	for n, p := range all {
		deepest = max(deepest, p.level)
		checkAt(t, x, n, p.node, true)
	}
	if n := tree.Size(x); n != len(all) {
		t.Errorf("Size(%s) = %d; want %d", short(x), n, len(all))
	}
	if n := tree.Deep(x); n != deepest+1 {
		t.Errorf("Deep(%s) = %d; want %d", short(x), n, deepest+1)
	}
	for _, n := range []int{math.MinInt, -len(all), -2, -1, len(all), len(all) + 1, math.MaxInt} {
		checkAt(t, x, n, api.Node{}, false)
	}
}

func checkSame(t *testing.T, a, b api.Node, want bool) {
	t.Helper()
	if is := tree.Same(a, b); is != want {
		t.Errorf("Same(%s, %s) = %t; want %t", short(a), short(b), is, want)
	}
}

// The table of the chapter's section 'Examples'.
func TestExamples(t *testing.T) {
	checkCheck(t, num(5), api.OK)
	checkCheck(t, vec(num(5), word(api.KKey, "a")), api.OK)
	checkCheck(t, dict([]string{"b", "a"}, num(5), vec()), api.OK)
	checkCheck(t, api.Node{}, api.ErrKind)
	checkCheck(t, boolean(2), api.ErrKind)
	checkCheck(t, api.Node{Kind: api.KInt, S: "a"}, api.ErrKind)
	checkCheck(t, list(api.KFixInts, num(1)), api.ErrKind)
	checkCheck(t, list(api.KInts, word(api.KKey, "a")), api.ErrKind)
	checkCheck(t, word(api.KKey, "a\x00"), api.ErrKey)
	checkCheck(t, dict([]string{"a", "a"}, num(5), num(5)), api.ErrTwice)
	checkCheck(t, dict([]string{"a"}), api.ErrKind)
	x := vec(num(5), vec(num(5), num(5)))
	if size, deep := tree.Size(x), tree.Deep(x); size != 5 || deep != 3 {
		t.Errorf("Size and Deep = %d, %d; want 5, 3", size, deep)
	}
	checkAt(t, x, 2, vec(num(5), num(5)), true)
	checkAt(t, x, 3, num(5), true)
	checkAt(t, x, 5, api.Node{}, false)
	checkCheck(t, nested(63, vec()), api.OK)
	checkCheck(t, nested(64, vec()), api.ErrDeep)
}

// P6.2: trees of every kind, invalid ones among them, and all ways to put small ones together.
func TestNodes(t *testing.T) {
	for _, x := range allTrees() {
		checkNodes(t, x)
	}
	parts := []api.Node{num(1), {}, vec(), vec(num(2)), vec(num(3), num(4)), vec(vec(), vec(num(5)))}
	for _, x := range smallTrees(parts) {
		checkNodes(t, x)
		checkNodes(t, vec(x, num(6), x))
	}
}

// P6.2: Leaf of the kinds and of other numbers.
func TestLeaf(t *testing.T) {
	kinds := append([]int{}, notKinds...)
	for kind := -300; kind <= 300; kind++ {
		kinds = append(kinds, kind, kind+1<<32, kind-1<<32)
	}
	for _, kind := range kinds {
		if is := tree.Leaf(kind); is != (kind >= 1 && kind <= 9) {
			t.Errorf("Leaf(%d) = %t", kind, is)
		}
	}
}

// P6.3: a tree equals itself and its copy, and no other tree.
func TestSame(t *testing.T) {
	l := allTrees()
	for i, a := range l {
		for j, b := range l {
			checkSame(t, a, b, i == j)
			checkSame(t, vec(num(1), a), vec(num(1), b), i == j)
			checkSame(t, dict([]string{"a"}, a), dict([]string{"a"}, b), i == j)
		}
	}
}

// P6.3: a change of any field of any node shows.
func TestSameNoticesChanges(t *testing.T) {
	for _, x := range []api.Node{
		num(1), vec(num(1), vec(num(2), dict([]string{"a", "b"}, num(3), list(api.KInts, num(4))))),
		{Kind: 99, N: 1, U: 1, S: "a", Keys: []string{"a", ""}, L: []api.Node{{}, {N: 1, U: 2, S: "b", Keys: []string{"c"}}}},
	} {
		eachChange(x, func(y api.Node) {
			checkSame(t, x, y, false)
			checkSame(t, y, x, false)
		})
	}
}

// eachChange calls use with trees that differ from t in a single field of a single node.
func eachChange(t api.Node, use func(t api.Node)) {
	changes := []func(n *api.Node){
		func(n *api.Node) { n.Kind++ },
		func(n *api.Node) { n.Kind += 1 << 32 },
		func(n *api.Node) { n.N++ },
		func(n *api.Node) { n.N ^= math.MinInt64 },
		func(n *api.Node) { n.U++ },
		func(n *api.Node) { n.U ^= 1 << 63 },
		func(n *api.Node) { n.S += "\x00" },
		func(n *api.Node) { n.Keys = append(n.Keys[:len(n.Keys):len(n.Keys)], "") },
		func(n *api.Node) { n.Keys = append([]string{"a\x00"}, n.Keys...) },
		func(n *api.Node) { n.L = append(n.L[:len(n.L):len(n.L)], api.Node{}) },
		func(n *api.Node) { n.L = append([]api.Node{vec()}, n.L...) },
	}
	for _, change := range changes {
		n := t
		change(&n)
		use(n)
	}
	for i, k := range t.Keys {
		n := clone(t)
		n.Keys[i] = k + "b"
		use(n)
	}
	for i, child := range t.L {
		eachChange(child, func(child api.Node) {
			n := clone(t)
			n.L[i] = child
			use(n)
		})
	}
}

// P6.3 and R4: a nil slice equals an empty one, at the root and below it, for Check too.
func TestNilAndEmpty(t *testing.T) {
	for _, x := range validTrees() {
		y := emptied(x)
		checkSame(t, x, y, true)
		checkSame(t, y, x, true)
		checkCheck(t, y, api.OK)
		checkNodes(t, y)
		checkSame(t, tree.Copy(y), x, true)
	}
}

// emptied has empty slices where t has nil slices.
func emptied(t api.Node) api.Node {
	t = clone(t)
	if t.Keys == nil {
		t.Keys = make([]string, 0, 1)
	}
	if t.L == nil {
		t.L = []api.Node{}
	}
	for i, child := range t.L {
		t.L[i] = emptied(child)
	}
	return t
}

// P6.3: copies of valid and invalid trees.
func TestCopy(t *testing.T) {
	for _, x := range allTrees() {
		if y := tree.Copy(x); !wantSame(x, y) || !tree.Same(x, y) {
			t.Errorf("Copy(%s) = %s", short(x), short(y))
		}
	}
}

// shared is a tree whose slices have unused capacity and belong to several nodes.
func shared() api.Node {
	keys := []string{"a", "b", "b", "unused"}
	l := []api.Node{num(1), vec(num(2)), word(api.KStr, "text"), num(3)}
	inner := dict(keys[:2], l[:2]...)
	inner.L = l[:2]
	outer := dict(keys[1:3], inner, inner)
	return list(api.KVec, outer, inner, word(api.KKey, keys[0]), list(api.KVec, l[:3]...))
}

// P6.4: neither the nodes nor the capacity behind them change.
func TestArgumentsAreKept(t *testing.T) {
	for _, x := range append(allTrees(), shared()) {
		before := clone(x)
		tree.Check(x)
		tree.Same(x, x)
		tree.Size(x)
		tree.Deep(x)
		tree.Copy(x)
		for n := range 6 {
			tree.At(x, n)
		}
		if !wantSame(whole(x), whole(before)) {
			t.Errorf("%s has changed to %s", short(before), short(x))
		}
	}
}

// memory counts, for each address at which a tree keeps keys, children or text, how often it does so.
func memory(t api.Node) map[uintptr]int {
	at := map[uintptr]int{}
	for _, p := range preorder(t) {
		n := p.node
		if cap(n.Keys) > 0 {
			at[reflect.ValueOf(n.Keys).Pointer()]++
		}
		if cap(n.L) > 0 {
			at[reflect.ValueOf(n.L).Pointer()]++
		}
		for _, s := range append([]string{n.S}, n.Keys...) {
			if s != "" {
				at[reflect.ValueOf(s).Pointer()]++
			}
		}
	}
	return at
}

// checkNew expects a result that shares nothing with another tree, and no part of which shares anything with another part.
func checkNew(t *testing.T, result, other api.Node) {
	t.Helper()
	taken := memory(other)
	for at, times := range memory(result) {
		if times > 1 {
			t.Errorf("%s keeps several parts at the same address", short(result))
		}
		if taken[at] > 0 {
			t.Errorf("%s shares memory with %s", short(result), short(other))
		}
	}
}

// P6.4: the results of Copy and At, even if nodes of the argument share slices.
func TestResultsAreNewMemory(t *testing.T) {
	for _, x := range append(allTrees(), shared()) {
		checkNew(t, tree.Copy(x), x)
		checkNew(t, tree.Copy(x), tree.Copy(x))
		for n := range min(tree.Size(x), 20) {
			y, _ := tree.At(x, n)
			checkNew(t, y, x)
		}
	}
}

// scribble overwrites all of a tree but its root, unused capacity included.
func scribble(t api.Node) {
	keys, l := t.Keys[:cap(t.Keys)], t.L[:cap(t.L)]
	for i := range keys {
		keys[i] = "!"
	}
	for i := range l {
		scribble(l[i])
		l[i] = word(api.KStr, "!")
	}
}

// P6.4: changes of a result do not show in the argument or in another result.
func TestResultsMayBeChanged(t *testing.T) {
	for _, x := range append(allTrees(), shared()) {
		before := clone(x)
		kept := tree.Copy(x)
		scribble(tree.Copy(x))
		y, _ := tree.At(x, 0)
		scribble(y)
		y, _ = tree.At(x, 1)
		scribble(y)
		if !wantSame(whole(x), whole(before)) || !wantSame(kept, before) {
			t.Errorf("a change of a result shows in %s", short(before))
		}
	}
}

// P6.5: subtrees of valid trees, those at the limits among them.
func TestSubtreesAreValid(t *testing.T) {
	for _, x := range append(validTrees(), nested(63, num(1)), wide(100, vec(num(1))), wide(64, wide(62, num(1)))) {
		checkCheck(t, x, api.OK)
		for n := range tree.Size(x) {
			if y, _ := tree.At(x, n); tree.Check(y) != api.OK {
				t.Errorf("subtree %d of %s is not valid", n, short(x))
			}
		}
	}
}

// P6.6: the size and the depth of a tree from those of its children; At within and beyond the size.
func TestSizeAndDepthOfChildren(t *testing.T) {
	l := append(allTrees(), shared())
	for i := range len(l) - 2 {
		l = append(l, vec(l[i:i+3]...), dict([]string{"a", "b"}, l[i+2], l[i]))
	}
	for _, x := range l {
		size, deep := 1, 1
		for _, child := range x.L {
			size += tree.Size(child)
			deep = max(deep, tree.Deep(child)+1)
		}
		if s, d := tree.Size(x), tree.Deep(x); s != size || d != deep {
			t.Errorf("Size and Deep of %s = %d, %d; want %d, %d", short(x), s, d, size, deep)
		}
		for n := -2; n < min(size, 50)+2; n++ {
			if _, is := tree.At(x, n); is != (n >= 0 && n < size) {
				t.Errorf("At(%s, %d) = %t", short(x), n, is)
			}
		}
		if _, is := tree.At(x, size-1); !is {
			t.Errorf("At(%s, %d) fails", short(x), size-1)
		}
		checkAt(t, x, size, api.Node{}, false)
	}
}

// P6.7: vectors of valid trees, up to the limits and beyond them.
func TestVectorsOfValidTrees(t *testing.T) {
	l := append(validTrees(), nested(61, num(1)), nested(62, vec()), nested(63, vec()), wide(2046, num(1)), wide(2047, num(1)), wide(4093, num(1)), wide(4094, num(1)), wide(4095, num(1)))
	for _, a := range l {
		checkVector(t, a)
		for _, b := range l {
			checkVector(t, a, b)
			checkVector(t, b, vec(), a)
		}
	}
}

func checkVector(t *testing.T, l ...api.Node) {
	t.Helper()
	size, shallow := 1, true
	for _, child := range l {
		size += tree.Size(child)
		shallow = shallow && tree.Deep(child) < 64
	}
	if is := tree.Check(vec(l...)) == api.OK; is != (size <= 4096 && shallow) {
		t.Errorf("a vector of %d nodes is valid: %t", size, is)
	}
}

// R1: trees that are nested as deeply as the document promises.
func TestVeryDeep(t *testing.T) {
	const levels = 1<<16 - 1
	x := nested(levels, num(7))
	if n := tree.Size(x); n != levels+1 {
		t.Errorf("Size = %d", n)
	}
	if n := tree.Deep(x); n != levels+1 {
		t.Errorf("Deep = %d", n)
	}
	checkCheck(t, x, api.ErrDeep)
	checkAt(t, x, levels, num(7), true)
	checkAt(t, x, levels+1, api.Node{}, false)
	if y := tree.Copy(x); !tree.Same(x, y) {
		t.Error("a copy differs")
	}
	if tree.Same(x, nested(levels, num(8))) {
		t.Error("a different leaf does not show")
	}
}

// R1: wide trees.
func TestVeryWide(t *testing.T) {
	const many = 300000
	x := wide(many, num(7))
	if size, deep := tree.Size(x), tree.Deep(x); size != many+1 || deep != 2 {
		t.Errorf("Size and Deep = %d, %d", size, deep)
	}
	checkAt(t, x, many, num(7), true)
	y := tree.Copy(x)
	y.L[many-1].N = 8
	if tree.Same(x, y) || x.L[many-1].N != 7 {
		t.Error("a change of the last child of a copy does not show, or shows in the argument")
	}
}
