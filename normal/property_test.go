package normal_test

import (
	"reflect"
	"testing"

	"accordion/api"
	"accordion/key"
	"accordion/normal"
	"accordion/tree"
)

// shared is a valid tree whose slices have unused capacity and belong to several nodes.
func shared() api.Node {
	keys := []string{"c", "b", "a", "unused"}
	l := []api.Node{uns(1), list(api.KUints, uns(2)), word(api.KKey, "text"), indNum(3)}
	inner := dict(keys[:2], uns(0), uns(0))
	inner.L = l[:2]
	ints := list(api.KFixUints)
	ints.L = []api.Node{uns(1), uns(2), uns(3)}[:2]
	return vec(dict(keys[1:3], inner, inner), inner, word(api.KKey, keys[0]), word(api.KStr, keys[0]), inner, ints, ints)
}

// P9.2: neither the nodes nor the capacity behind them change, with an error or without.
func TestArgumentsAreKept(t *testing.T) {
	for _, x := range append(append(validTrees(), invalidTrees()...), shared()) {
		before := clone(x)
		normal.Of(x)
		normal.Alike(x, x)
		normal.Alike(x, num(1))
		normal.Alike(num(1), x)
		if !wantSame(whole(x), whole(before)) {
			t.Errorf("%s has changed to %s", short(before), short(x))
		}
	}
}

// memory counts, for each address at which a tree keeps keys, children or text, how often it does so.
func memory(t api.Node, at map[uintptr]int) {
	if cap(t.Keys) > 0 {
		at[reflect.ValueOf(t.Keys).Pointer()]++
	}
	if cap(t.L) > 0 {
		at[reflect.ValueOf(t.L).Pointer()]++
	}
	for _, s := range append([]string{t.S}, t.Keys...) {
		if s != "" {
			at[reflect.ValueOf(s).Pointer()]++
		}
	}
	for _, child := range t.L {
		memory(child, at)
	}
}

// P9.2: results share no memory with the argument, and no two parts of a result share any, even if parts of the argument do.
func TestResultsAreNewMemory(t *testing.T) {
	for _, x := range append(validTrees(), shared()) {
		taken, used := map[uintptr]int{}, map[uintptr]int{}
		memory(x, taken)
		y, _ := normal.Of(x)
		memory(y, used)
		for at, times := range used {
			if times > 1 || taken[at] > 0 {
				t.Errorf("Of(%s): memory used %d times, by the argument %d times", short(x), times, taken[at])
			}
		}
	}
}

// scribble overwrites all of a tree but its root, unused capacity included.
func scribble(t api.Node) {
	keys, l := t.Keys[:cap(t.Keys)], t.L[:cap(t.L)]
	for i := range keys {
		keys[i] = "!"
	}
	for i := range l {
		scribble(l[i])
		l[i] = word(api.KStr, "!")
	}
}

// P9.2: changes of a result do not show in the argument or in another result.
func TestResultsMayBeChanged(t *testing.T) {
	for _, x := range append(validTrees(), shared()) {
		before := clone(x)
		kept, _ := normal.Of(x)
		y, _ := normal.Of(x)
		scribble(y)
		if !wantSame(whole(x), whole(before)) || !wantSame(kept, wantForm(before)) {
			t.Errorf("a change of a result shows in %s", short(before))
		}
	}
}

// P9.3: a normal form is valid and its own normal form; size and depth are those of the tree.
func TestNormalForms(t *testing.T) {
	for _, x := range append(validTrees(), nested(63), wide(4095), shared()) {
		y, e := normal.Of(x)
		if e != api.OK || tree.Check(y) != api.OK {
			t.Errorf("Of(%s) = %s, %d is not valid", short(x), short(y), e)
		}
		checkOf(t, y, y, api.OK)
		if count(y) != count(x) || depth(y) != depth(x) {
			t.Errorf("Of(%s) = %s: %d nodes, depth %d; want %d, %d", short(x), short(y), count(y), depth(y), count(x), depth(x))
		}
	}
}

// P9.4: every valid tree is equivalent to itself, and to its normal form.
func TestAlikeIsReflexive(t *testing.T) {
	for _, x := range append(validTrees(), nested(63), wide(4095), shared()) {
		checkAlike(t, x, clone(x), true)
		y, _ := normal.Of(x)
		checkAlike(t, x, y, true)
		checkAlike(t, y, x, true)
	}
}

// P9.4: both orders of two trees yield the same, which is whether the normal forms are equal.
func TestAlikeIsSymmetric(t *testing.T) {
	l := append(append(vectors(), mappings()...), invalidTrees()[:30]...)
	for _, a := range l {
		for _, b := range l {
			is := normal.Alike(a, b)
			checkAlike(t, b, a, is)
			x, e := normal.Of(a)
			y, f := normal.Of(b)
			if is != (e == api.OK && f == api.OK && wantSame(x, y)) {
				t.Errorf("Alike(%s; %s) = %t, but their normal forms are %s and %s", short(a), short(b), is, short(x), short(y))
			}
		}
	}
}

// eachPair calls use with the corresponding nodes of two trees of the same shape.
func eachPair(t *testing.T, a, b api.Node, use func(a, b api.Node)) {
	t.Helper()
	use(a, b)
	if len(a.L) != len(b.L) {
		t.Fatalf("%s and %s have not the same shape", short(a), short(b))
	}
	for i := range a.L {
		eachPair(t, a.L[i], b.L[i], use)
	}
}

// P9.4: corresponding nodes of equivalent sorted trees are equivalent.
func TestAlikeNodeByNode(t *testing.T) {
	l := append(vectors(), mappings()...)
	for _, a := range l {
		for _, b := range l {
			x := dict([]string{"y", "x"}, a, vec(b, a))
			y := dict([]string{"x", "y"}, vec(a, b), b)
			if normal.Alike(x, y) {
				eachPair(t, wantSorted(x), wantSorted(y), func(m, n api.Node) { checkAlike(t, m, n, true) })
			}
		}
	}
}

// P9.5: a valid tree is equivalent to its sorted form.
func TestAlikeSorted(t *testing.T) {
	for _, x := range append(validTrees(), nested(63), wide(4095), shared()) {
		s, e := key.Sorted(x)
		if e != api.OK || !wantSame(s, wantSorted(x)) {
			t.Fatalf("Sorted(%s) = %s, %d", short(x), short(s), e)
		}
		checkAlike(t, x, s, true)
		checkAlike(t, s, x, true)
	}
}
