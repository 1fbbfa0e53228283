package path_test

import (
	"math"
	"reflect"
	"slices"
	"strconv"
	"testing"

	"accordion/api"
	"accordion/path"
	"accordion/tree"
)

func num(n int64) api.Node                  { return api.Node{Kind: api.KInt, N: n} }
func word(kind int, s string) api.Node      { return api.Node{Kind: kind, S: s} }
func list(kind int, l ...api.Node) api.Node { return api.Node{Kind: kind, L: l} }
func vec(l ...api.Node) api.Node            { return list(api.KVec, l...) }

func dict(keys []string, l ...api.Node) api.Node {
	return api.Node{Kind: api.KMap, Keys: keys, L: l}
}

// nested is a node within n vectors.
func nested(n int, t api.Node) api.Node {
	for range n {
		t = vec(t)
	}
	return t
}

// wide is a vector of n numbers.
func wide(n int) api.Node {
	l := make([]api.Node, n)
	for i := range l {
		l[i] = num(int64(i))
	}
	return vec(l...)
}

// sample is the tree t of the chapter's examples.
func sample() api.Node {
	return vec(num(5), dict([]string{"b", "a"}, num(1), vec(num(2), num(3))))
}

// validTrees holds trees of every kind, with and without children.
func validTrees() []api.Node {
	unsigned := api.Node{Kind: api.KUint, U: 7}
	inner := dict([]string{"b", "", "a"}, num(1), word(api.KStr, "a"), vec(num(2), dict([]string{"a"}, num(3))))
	return []api.Node{
		{Kind: api.KNull}, {Kind: api.KBool, N: 1}, num(math.MinInt64), {Kind: api.KUint, U: math.MaxUint64}, {Kind: api.KIndInt, N: -1}, {Kind: api.KIndUint, U: 1},
		word(api.KKey, "a"), word(api.KStr, "a\x00"), word(api.KBlob, "\xff"),
		vec(), vec(vec(num(1)), vec()), dict(nil), inner, vec(inner, num(1), inner), dict([]string{"a", "\xff", "b"}, inner, num(4), vec(inner)),
		list(api.KInts, num(1), num(2), num(3)), list(api.KUints, unsigned), list(api.KKeys, word(api.KKey, "b"), word(api.KKey, "a")), list(api.KBools, api.Node{Kind: api.KBool}),
		list(api.KFixInts, num(1), num(2)), list(api.KFixUints, unsigned, unsigned, unsigned), sample(),
	}
}

// invalidTrees holds trees with errors of every kind, below and beside which there are nodes to which paths lead.
func invalidTrees() []api.Node {
	l := []api.Node{num(1), num(2), sample()}
	return []api.Node{
		{}, {L: l}, {Kind: -1, L: l}, {Kind: 18, Keys: []string{"a", "b"}, L: l}, {Kind: api.KInt, L: l}, {Kind: api.KStr, S: "a", Keys: []string{"a"}, L: l},
		{Kind: api.KVec, Keys: []string{"a", "b", ""}, L: l}, list(api.KInts, l...), {Kind: api.KKeys, N: 1, U: 1, S: "a", Keys: []string{"a"}, L: l}, list(api.KFixInts, num(1)), {Kind: api.KBool, N: 2, L: l},
		dict([]string{"a"}), dict([]string{"b", "a", ""}, num(1)), dict(nil, l...), dict([]string{"a"}, l...), dict([]string{"", "a", "b", "c"}, l...),
		dict([]string{"a", "a", "b"}, l...), dict([]string{"b", "a", "a"}, l...), dict([]string{"b", "b", "b"}, num(1)), dict([]string{"c", "a", "b", "a"}, num(1)), dict([]string{"a\x00", "\x00", "a"}, l...),
		vec(dict([]string{"a", "a"}, num(1), num(2)), word(api.KKey, "\x00")), {Kind: api.KMap, N: 1, S: "b", Keys: []string{"b", "a"}, L: l},
		{Kind: api.KMap + 256, Keys: []string{"a"}, L: l}, {Kind: api.KMap + 1<<32, Keys: []string{"a"}, L: l}, {Kind: api.KMap - 1<<32, Keys: []string{"a"}, L: l},
	}
}

func allTrees() []api.Node {
	return append(validTrees(), invalidTrees()...)
}

// treeSteps holds steps that lead to children of some of the trees, and steps that never do; some of them are not valid, and each field is also set where it is to be ignored.
func treeSteps() []api.Step {
	return steps(
		index(0), index(1), index(2), index(3), index(-1), index(math.MaxInt), index(math.MinInt), index(1<<32),
		api.Step{At: 1, Key: "a"}, api.Step{At: 9, Key: "a"}, api.Step{At: 0, Key: "\xff"},
		named(""), named("a"), named("b"), named("c"), named("A"), named("\xff"), named("\x00"), named("a\x00"), named("aa"), named("0"),
		api.Step{ByKey: true, Key: "a", At: 1}, api.Step{ByKey: true, Key: "b", At: -5}, api.Step{ByKey: true, Key: "x", At: 1},
	)
}

// eachPath calls use with all paths of up to n of the steps.
func eachPath(l []api.Step, n int, use func(p []api.Step)) {
	var extend func(p []api.Step)
	extend = func(p []api.Step) {
		use(p)
		if len(p) == n {
			return
		}
		for _, step := range l {
			extend(append(slices.Clone(p), step))
		}
	}
	extend(nil)
}

// places holds, for each node of a tree, the path of the indices that lead to it.
func places(t api.Node) [][]api.Step {
	l := [][]api.Step{{}}
	for i, child := range t.L {
		for _, p := range places(child) {
			l = append(l, append(steps(index(i)), p...))
		}
	}
	return l
}

func checkGet(t *testing.T, x api.Node, p []api.Step, want api.Node, wantE api.Errno) {
	t.Helper()
	if got, e := path.Get(x, p); e != wantE || !wantSame(got, want) {
		t.Errorf("Get(%s, %s) = %s, %d; want %s, %d", short(x), brief(p), short(got), e, short(want), wantE)
	}
}

func checkSet(t *testing.T, x api.Node, p []api.Step, n, want api.Node, wantE api.Errno) {
	t.Helper()
	if got, e := path.Set(x, p, n); e != wantE || !wantSame(got, want) {
		t.Errorf("Set(%s, %s, %s) = %s, %d; want %s, %d", short(x), brief(p), short(n), short(got), e, short(want), wantE)
	}
}

// checkSetting expects of Set what P8.4 says.
func checkSetting(t *testing.T, x api.Node, p []api.Step, n api.Node) {
	t.Helper()
	want, is := wantReplaced(x, p, n)
	if !is {
		checkSet(t, x, p, n, api.Node{}, api.ErrPath)
	} else if e := tree.Check(want); e != api.OK {
		checkSet(t, x, p, n, api.Node{}, e)
	} else {
		checkSet(t, x, p, n, want, api.OK)
	}
}

// The last two rows of the chapter's section 'Examples'.
func TestExamplesOfTrees(t *testing.T) {
	x := sample()
	checkGet(t, x, nil, x, api.OK)
	checkGet(t, x, steps(index(1)), dict([]string{"b", "a"}, num(1), vec(num(2), num(3))), api.OK)
	checkGet(t, x, steps(index(1), named("a"), index(1)), num(3), api.OK)
	checkGet(t, x, steps(index(1), index(0)), num(1), api.OK)
	checkGet(t, x, steps(index(1), named("c")), api.Node{}, api.ErrPath)
	checkGet(t, x, steps(index(0), index(0)), api.Node{}, api.ErrPath)
	checkGet(t, x, steps(index(2)), api.Node{}, api.ErrPath)
	checkSet(t, x, steps(index(1), named("a"), index(0)), num(9), vec(num(5), dict([]string{"b", "a"}, num(1), vec(num(9), num(3)))), api.OK)
	checkSet(t, x, steps(index(0)), api.Node{}, api.Node{}, api.ErrKind)
}

// P8.3: trees and paths, valid and not.
func TestGet(t *testing.T) {
	for _, x := range allTrees() {
		eachPath(treeSteps(), 3, func(p []api.Step) {
			want, wantE := wantGet(x, p)
			checkGet(t, x, p, want, wantE)
		})
	}
}

// P8.3: an index step ignores Key, a key step ignores At, and only a KMap has keys.
func TestStepsIgnoreTheOtherField(t *testing.T) {
	x := dict([]string{"b", "a"}, num(1), num(2))
	checkGet(t, x, steps(api.Step{Key: "a"}), num(1), api.OK)
	checkGet(t, x, steps(api.Step{Key: "b", At: 1}), num(2), api.OK)
	checkGet(t, x, steps(api.Step{Key: "a", ByKey: true, At: -1}), num(2), api.OK)
	checkGet(t, x, steps(api.Step{Key: "b", ByKey: true, At: 1}), num(1), api.OK)
	checkGet(t, x, steps(api.Step{Key: "c", ByKey: true, At: 1}), api.Node{}, api.ErrPath)
	for kind := -1; kind <= 300; kind++ {
		x.Kind = kind
		if kind != api.KMap {
			checkGet(t, x, steps(named("a")), api.Node{}, api.ErrPath)
		}
		checkGet(t, x, steps(index(1)), num(2), api.OK)
	}
}

// P8.3: the first of several equal keys counts, even if it has no child; the order of the keys does not.
func TestGetByKey(t *testing.T) {
	x := dict([]string{"z", "a", "m", "a", "", "m"}, num(0), num(1), num(2), num(3), num(4))
	for k, want := range map[string]int64{"z": 0, "a": 1, "m": 2, "": 4} {
		checkGet(t, x, steps(named(k)), num(want), api.OK)
	}
	x = dict([]string{"b", "a", "c", "b"}, num(0))
	checkGet(t, x, steps(named("b")), num(0), api.OK)
	checkGet(t, x, steps(named("a")), api.Node{}, api.ErrPath)
	checkGet(t, x, steps(named("c")), api.Node{}, api.ErrPath)
	checkGet(t, dict([]string{"b", "a"}), steps(named("b")), api.Node{}, api.ErrPath)
	checkGet(t, dict([]string{"b"}, num(0), num(1)), steps(index(1)), num(1), api.OK)
	checkGet(t, dict([]string{"b"}, num(0), num(1)), steps(named("")), api.Node{}, api.ErrPath)
}

// P8.3: maps with many keys, in order, in reverse and in disorder.
func TestGetInLongMaps(t *testing.T) {
	const many, prime = 500, 503
	for _, factor := range []int{1, prime - 1, 7, 100} {
		keys, l := make([]string, many), make([]api.Node, many)
		for i := range keys {
			keys[i] = strconv.Itoa(1000 + (i+1)*factor%prime)
			l[i] = num(int64(i))
		}
		for i, k := range keys {
			checkGet(t, dict(keys, l...), steps(named(k)), l[i], api.OK)
			checkGet(t, dict(keys, l...), steps(named(k+"0")), api.Node{}, api.ErrPath)
		}
	}
}

// P8.3: a result with an error is the zero Node, not the node at which the path ends.
func TestFailuresReturnNoNode(t *testing.T) {
	x := sample()
	for _, p := range [][]api.Step{{index(2)}, {index(1), named("c")}, {index(1), named("a"), index(1), index(0)}, {named("a")}, {index(-1)}} {
		if n, e := path.Get(x, p); e != api.ErrPath || !reflect.DeepEqual(n, api.Node{}) {
			t.Errorf("Get(%s) = %s, %d", brief(p), short(n), e)
		}
		if n, e := path.Set(x, p, num(1)); e != api.ErrPath || !reflect.DeepEqual(n, api.Node{}) {
			t.Errorf("Set(%s) = %s, %d", brief(p), short(n), e)
		}
	}
	for _, bad := range []api.Node{{}, {Kind: 18, N: 1}, word(api.KKey, "\x00"), dict([]string{"a", "a"}, num(1), num(1)), nested(63, num(1)), wide(4096)} {
		if n, e := path.Set(x, steps(index(0)), bad); e == api.OK || !reflect.DeepEqual(n, api.Node{}) {
			t.Errorf("Set of %s = %s, %d", short(bad), short(n), e)
		}
	}
}

// newNodes holds nodes to be set, with an error of every kind and without errors.
func newNodes() []api.Node {
	return []api.Node{num(9), vec(), sample(), word(api.KKey, "k"), {Kind: api.KUint, U: 9}, {}, {Kind: api.KInt, S: "a"}, word(api.KKey, "\x00"), dict([]string{"a", "a"}, num(1), num(1)), nested(64, num(1))}
}

// P8.4: trees and paths, valid and not, and new nodes, valid and not.
func TestSet(t *testing.T) {
	for _, x := range allTrees() {
		for _, n := range newNodes() {
			eachPath(treeSteps(), 2, func(p []api.Step) {
				checkSetting(t, x, p, n)
			})
			for _, p := range places(x) {
				checkSetting(t, x, p, n)
				checkSetting(t, vec(num(1), x), append(steps(index(1)), p...), n)
				checkSetting(t, dict([]string{"b", "a"}, num(1), x), append(steps(named("a")), p...), n)
			}
		}
	}
}

// P8.4: ErrPath comes before any error of a tree.
func TestSetReportsThePathFirst(t *testing.T) {
	for _, x := range invalidTrees() {
		checkSet(t, x, steps(index(9)), api.Node{}, api.Node{}, api.ErrPath)
		checkSet(t, x, steps(named("z")), num(1), api.Node{}, api.ErrPath)
	}
}

// P8.4: what counts is the tree with the new node: an error that is replaced is none, and any other error remains.
func TestSetChecksTheNewTree(t *testing.T) {
	bad := api.Node{Kind: 99}
	checkSet(t, bad, nil, num(1), num(1), api.OK)
	checkSet(t, vec(num(1), bad), steps(index(1)), num(2), vec(num(1), num(2)), api.OK)
	checkSet(t, vec(num(1), bad), steps(index(0)), num(2), api.Node{}, api.ErrKind)
	checkSet(t, vec(num(1), vec(num(2), bad)), steps(index(1)), num(2), vec(num(1), num(2)), api.OK)
	checkSet(t, vec(num(1), wide(5000)), steps(index(1)), num(2), vec(num(1), num(2)), api.OK)
	checkSet(t, vec(num(1), nested(70, num(1))), steps(index(1)), num(2), vec(num(1), num(2)), api.OK)
	checkSet(t, vec(word(api.KKey, "\x00"), bad), steps(index(1)), num(2), api.Node{}, api.ErrKey)
	checkSet(t, vec(bad, word(api.KKey, "\x00")), steps(index(0)), dict([]string{"a", "a"}, num(1), num(1)), api.Node{}, api.ErrTwice)
	checkSet(t, list(api.KInts, num(1), num(2)), steps(index(1)), word(api.KStr, "a"), api.Node{}, api.ErrKind)
	checkSet(t, list(api.KInts, num(1), word(api.KStr, "a")), steps(index(1)), num(2), list(api.KInts, num(1), num(2)), api.OK)
	checkSet(t, dict([]string{"a", "a"}, num(1), num(2)), steps(named("a")), num(3), api.Node{}, api.ErrTwice)
	checkSet(t, dict([]string{"a", "\x00"}, num(1), num(2)), steps(named("\x00")), num(3), api.Node{}, api.ErrKey)
}

// P8.4: at the limits of valid trees, and one beyond.
func TestSetAtTheLimits(t *testing.T) {
	deepest := repeated(62, index(0))
	checkSet(t, nested(62, num(1)), deepest, vec(num(2)), nested(63, num(2)), api.OK)
	checkSet(t, nested(62, num(1)), deepest, vec(vec(num(2))), api.Node{}, api.ErrDeep)
	checkSet(t, nested(64, num(1)), deepest, num(2), nested(62, num(2)), api.OK)
	x := wide(1000)
	want := clone(x)
	want.L[999] = wide(3095)
	checkSet(t, x, steps(index(999)), wide(3095), want, api.OK)
	checkSet(t, x, steps(index(999)), wide(3096), api.Node{}, api.ErrLimit)
	checkSet(t, want, steps(index(999)), num(999), x, api.OK)
}

// R4: a nil path and an empty one, nil slices of nodes and empty ones.
func TestNilAndEmpty(t *testing.T) {
	for _, p := range [][]api.Step{nil, {}} {
		checkShow(t, p, "", api.OK)
		checkGet(t, sample(), p, sample(), api.OK)
		checkSet(t, sample(), p, num(1), num(1), api.OK)
		checkSet(t, api.Node{}, p, num(1), num(1), api.OK)
		checkSet(t, sample(), p, api.Node{}, api.Node{}, api.ErrKind)
		empty := api.Node{Kind: api.KMap, Keys: []string{}, L: []api.Node{}}
		checkGet(t, empty, p, dict(nil), api.OK)
		checkGet(t, empty, steps(named("")), api.Node{}, api.ErrPath)
		checkGet(t, empty, steps(index(0)), api.Node{}, api.ErrPath)
		checkSet(t, dict([]string{""}, num(1)), steps(named("")), empty, dict([]string{""}, dict(nil)), api.OK)
	}
}

// shared is a tree whose slices have unused capacity and belong to several nodes.
func shared() api.Node {
	keys := []string{"c", "b", "a", "unused"}
	l := []api.Node{num(1), vec(num(2)), word(api.KStr, "text"), num(3)}
	inner := dict(keys[:2], l[:2]...)
	inner.L = l[:2]
	outer := dict(keys[1:3], inner, inner)
	return list(api.KVec, outer, inner, word(api.KKey, keys[0]), inner)
}

// P8.4: a node that shares its children with other nodes is replaced in one place only.
func TestSetInSharedSlices(t *testing.T) {
	for _, p := range places(shared()) {
		checkSetting(t, shared(), p, word(api.KStr, "new"))
	}
	x := shared()
	checkSetting(t, x, steps(index(1), index(0)), x)
	checkSetting(t, x, steps(index(3)), x.L[0])
}

// P8.5: neither the trees nor the capacity behind them change, with an error or without.
func TestTreesAreKept(t *testing.T) {
	for _, x := range append(allTrees(), shared()) {
		before := clone(x)
		for _, p := range append(places(x), steps(index(7)), steps(named("a")), steps(named("b"), index(0), named("c"))) {
			kept := append(slices.Clone(p), index(77))
			path.Get(x, kept[:len(p)])
			for _, n := range append(newNodes(), shared()) {
				old := clone(n)
				path.Set(x, kept[:len(p)], n)
				path.Set(x, kept, n)
				path.Set(n, kept[:len(p)], x)
				if !wantSame(whole(n), whole(old)) {
					t.Errorf("the new node %s has changed", short(old))
				}
			}
			if !slices.Equal(kept[:len(p)], p) || kept[len(p)] != index(77) {
				t.Errorf("%s has changed", brief(p))
			}
		}
		if !wantSame(whole(x), whole(before)) {
			t.Errorf("%s has changed to %s", short(before), short(x))
		}
	}
}

// memory counts, for each address at which a tree keeps keys, children or text, how often it does so.
func memory(t api.Node, at map[uintptr]int) {
	if cap(t.Keys) > 0 {
		at[reflect.ValueOf(t.Keys).Pointer()]++
	}
	if cap(t.L) > 0 {
		at[reflect.ValueOf(t.L).Pointer()]++
	}
	for _, s := range append([]string{t.S}, t.Keys...) {
		if s != "" {
			at[reflect.ValueOf(s).Pointer()]++
		}
	}
	for _, child := range t.L {
		memory(child, at)
	}
}

// checkNew expects a result that shares nothing with the arguments, and no part of which shares anything with another part.
func checkNew(t *testing.T, result api.Node, arguments ...api.Node) {
	t.Helper()
	taken, used := map[uintptr]int{}, map[uintptr]int{}
	for _, x := range arguments {
		memory(x, taken)
	}
	memory(result, used)
	for at, times := range used {
		if times > 1 || taken[at] > 0 {
			t.Errorf("%s: memory used %d times, by the arguments %d times", short(result), times, taken[at])
		}
	}
}

// P8.5: results of Get and Set, even if parts of the arguments share memory with each other.
func TestResultsAreNewMemory(t *testing.T) {
	for _, x := range append(allTrees(), shared()) {
		for _, p := range places(x) {
			y, _ := path.Get(x, p)
			checkNew(t, y, x)
			for _, n := range append(newNodes(), shared()) {
				y, _ = path.Set(x, p, n)
				checkNew(t, y, x, n)
			}
			y, _ = path.Set(x, p, x)
			checkNew(t, y, x)
		}
	}
}

// scribble overwrites all of a tree but its root, unused capacity included.
func scribble(t api.Node) {
	keys, l := t.Keys[:cap(t.Keys)], t.L[:cap(t.L)]
	for i := range keys {
		keys[i] = "!"
	}
	for i := range l {
		scribble(l[i])
		l[i] = word(api.KStr, "!")
	}
}

// P8.5: changes of a result do not show in the arguments or in another result.
func TestResultsMayBeChanged(t *testing.T) {
	for _, x := range append(validTrees(), shared()) {
		n := shared()
		before, old := clone(x), clone(n)
		for _, p := range places(x) {
			y, _ := path.Get(x, p)
			scribble(y)
			kept, _ := path.Set(x, p, n)
			want := clone(kept)
			y, _ = path.Set(x, p, n)
			scribble(y)
			if !wantSame(whole(x), whole(before)) || !wantSame(whole(n), whole(old)) || !wantSame(kept, want) {
				t.Errorf("a change of a result shows in %s", short(before))
			}
		}
	}
}

// P8.7: the new node is where the old one was, and the nodes to which other paths lead are still there.
func TestGetAfterSet(t *testing.T) {
	l := treeSteps()
	for _, x := range validTrees() {
		for _, n := range newNodes() {
			eachPath(l, 2, func(p []api.Step) {
				y, e := path.Set(x, p, n)
				if e != api.OK {
					return
				}
				checkGet(t, y, p, n, api.OK)
				place, _ := wantPlace(x, p)
				eachPath(l, 2, func(q []api.Step) { checkUntouched(t, x, y, place, q) })
				for _, q := range places(x) {
					checkUntouched(t, x, y, place, q)
				}
			})
		}
	}
}

// checkUntouched compares the nodes to which a path leads in x and in y, which differs from x at a place only. The comparison leaves out paths through that place, and paths to a node above it, whose other children are reached by paths of their own.
func checkUntouched(t *testing.T, x, y api.Node, place []int, p []api.Step) {
	t.Helper()
	other, is := wantPlace(x, p)
	if !is {
		if through, is := wantPlace(y, p); !is || len(through) < len(place) || !slices.Equal(through[:len(place)], place) {
			checkGet(t, y, p, api.Node{}, api.ErrPath)
		}
		return
	}
	n := min(len(other), len(place))
	if !slices.Equal(other[:n], place[:n]) {
		want, _ := path.Get(x, p)
		checkGet(t, y, p, want, api.OK)
		return
	}
	if len(other) < len(place) {
		want, _ := path.Get(x, p)
		got, e := path.Get(y, p)
		want.L, got.L = nil, nil
		if e != api.OK || !wantSame(got, want) {
			t.Errorf("%s leads to %s, %d; want %s", brief(p), short(got), e, short(want))
		}
	}
}

// P8.8: two paths one after the other, and both as one.
func TestConcatenation(t *testing.T) {
	for _, x := range append(allTrees(), nested(70, sample())) {
		eachPath(treeSteps(), 1, func(p []api.Step) {
			y, e := path.Get(x, p)
			eachPath(treeSteps(), 2, func(q []api.Step) {
				both := slices.Concat(p, q)
				if e != api.OK {
					checkGet(t, x, both, api.Node{}, e)
					return
				}
				want, wantE := path.Get(y, q)
				checkGet(t, x, both, want, wantE)
			})
		})
	}
}

// P8.8: all ways to cut a long path in two.
func TestConcatenationOfLongPaths(t *testing.T) {
	x := nested(100, sample())
	for _, end := range [][]api.Step{{index(1), named("a"), index(1)}, {index(1), named("c")}, {}} {
		p := append(repeated(100, index(0)), end...)
		want, wantE := path.Get(x, p)
		for n := range p {
			y, e := path.Get(x, p[:n])
			if e != api.OK {
				t.Fatalf("Get(%s): %d", brief(p[:n]), e)
			}
			checkGet(t, y, p[n:], want, wantE)
		}
	}
}

// P8.3 and R1: paths of more than 64 steps, which are not valid, in trees as deep as the document promises, and beyond them.
func TestVeryDeep(t *testing.T) {
	const levels = 1<<16 - 1
	x := nested(levels, num(7))
	p := repeated(levels, index(0))
	checkGet(t, x, p, num(7), api.OK)
	checkGet(t, x, p[1:], vec(num(7)), api.OK)
	checkGet(t, x, repeated(levels+1, index(0)), api.Node{}, api.ErrPath)
	checkGet(t, x, repeated(1<<20, index(0)), api.Node{}, api.ErrPath)
	checkGet(t, x, append(p[:levels-1:levels-1], index(1)), api.Node{}, api.ErrPath)
	checkSet(t, x, p, num(8), api.Node{}, api.ErrDeep)
	checkSet(t, x, repeated(1<<20, index(0)), num(8), api.Node{}, api.ErrPath)
	checkSet(t, x, p[:63], num(8), nested(63, num(8)), api.OK)
	checkSet(t, x, nil, num(8), num(8), api.OK)
	if y, e := path.Get(x, nil); e != api.OK || !wantSame(x, y) {
		t.Errorf("Get of all of it: %d", e)
	}
}

// R1: trees and maps that are far too wide.
func TestVeryWide(t *testing.T) {
	const many = 300000
	x := wide(many)
	checkGet(t, x, steps(index(many-1)), num(many-1), api.OK)
	checkGet(t, x, steps(index(many)), api.Node{}, api.ErrPath)
	checkSet(t, x, steps(index(many-1)), num(1), api.Node{}, api.ErrLimit)
	keys := make([]string, many)
	for i := range keys {
		keys[i] = strconv.Itoa(i)
	}
	x.Kind, x.Keys = api.KMap, keys
	checkGet(t, x, steps(named("299999")), num(many-1), api.OK)
	checkGet(t, x, steps(named("300000")), api.Node{}, api.ErrPath)
	checkSet(t, vec(num(1), x), steps(index(1)), num(2), vec(num(1), num(2)), api.OK)
}
