package tree_test

import (
	"strconv"
	"testing"

	"accordion/api"
	"accordion/tree"
)

func checkCheck(t *testing.T, x api.Node, want api.Errno) {
	t.Helper()
	if e := tree.Check(x); e != want {
		t.Errorf("Check(%s) = %d; want %d", short(x), e, want)
	}
}

// childLists holds lists of children of every length that matters, for each kind of vector and for none.
func childLists() [][]api.Node {
	l := [][]api.Node{nil, {}, {num(1), unsigned(1)}, {word(api.KKey, "a"), word(api.KStr, "a")}}
	for _, child := range []api.Node{
		{Kind: api.KNull}, boolean(1), num(1), unsigned(1), word(api.KKey, "a"), word(api.KStr, "a"), {Kind: api.KIndInt}, {Kind: api.KIndUint},
		vec(), {}, {Kind: 18}, boolean(2), word(api.KKey, "\x00"), {Kind: api.KInt, U: 1},
	} {
		for n := 1; n <= 5; n++ {
			l = append(l, wide(n, child).L)
		}
	}
	return l
}

// P6.1: every kind with every way to use or leave out its fields.
func TestCheckOfEveryField(t *testing.T) {
	keys := [][]string{nil, {}, {"a"}, {""}, {"\x00"}, {"b", "a"}, {"a", "a"}, {"", ""}, {"a", "a\x00"}, {"\x00", "\x00"}, {"a", "a", "\x00"}, {"a", "\x00", "a"}, {"a", "b", "a", "b"}}
	kinds := append([]int{}, notKinds...)
	for kind := 1; kind <= 17; kind++ {
		kinds = append(kinds, kind)
	}
	for _, kind := range kinds {
		for _, n := range []int64{0, 1, 2, -1} {
			for _, u := range []uint64{0, 1, 1 << 63} {
				for _, s := range []string{"", "a", "a\x00b", "\x00"} {
					for _, l := range childLists() {
						x := api.Node{Kind: kind, N: n, U: u, S: s, L: l}
						for _, x.Keys = range keys {
							checkCheck(t, x, wantCheck(x))
						}
					}
				}
			}
		}
	}
}

// P6.1: valid trees, and each of them with an unused field that is not zero.
func TestCheckOfValidTrees(t *testing.T) {
	for _, x := range validTrees() {
		checkCheck(t, x, api.OK)
		eachChange(x, func(y api.Node) {
			checkCheck(t, y, wantCheck(y))
		})
	}
	for _, x := range invalidTrees() {
		checkCheck(t, x, wantCheck(x))
		if tree.Check(x) == api.OK {
			t.Errorf("%s is not valid", short(x))
		}
	}
}

// P6.1: a typed vector with a child of another kind in any place, and fixed vectors of any length.
func TestCheckOfTypedVectors(t *testing.T) {
	elems := map[int]int{api.KInts: api.KInt, api.KUints: api.KUint, api.KKeys: api.KKey, api.KBools: api.KBool, api.KFixInts: api.KInt, api.KFixUints: api.KUint}
	for kind, elem := range elems {
		for n := range 10 {
			x := wide(n, api.Node{Kind: elem})
			x.Kind = kind
			if fixed := kind == api.KFixInts || kind == api.KFixUints; fixed && (n < 2 || n > 4) {
				checkCheck(t, x, api.ErrKind)
				continue
			}
			checkCheck(t, x, api.OK)
			for i := range n {
				for other := range 19 {
					if other != elem {
						y := clone(x)
						y.L[i].Kind = other
						checkCheck(t, y, api.ErrKind)
					}
				}
			}
		}
	}
}

// P6.1: the first error in preorder, in all small trees of nodes with and without errors.
func TestCheckOrder(t *testing.T) {
	parts := []api.Node{
		num(1), {}, word(api.KKey, "\x00"), dict([]string{"a", "a"}, num(1), num(1)), dict([]string{"a", "a"}, api.Node{}, num(1)),
		list(api.KInts, word(api.KKey, "\x00")), vec(num(1), word(api.KKey, "\x00")),
	}
	second := smallTrees(parts)
	for _, x := range second {
		checkCheck(t, x, wantCheck(x))
		for _, y := range second {
			z := vec(x, y)
			checkCheck(t, z, wantCheck(z))
		}
	}
}

// P6.1: within a map, key by key, before the nodes below it.
func TestCheckOfKeys(t *testing.T) {
	bad := api.Node{Kind: 99}
	checkCheck(t, dict([]string{"a\x00", "a"}, bad, bad), api.ErrKey)
	checkCheck(t, dict([]string{"a", "\x00a"}, bad, bad), api.ErrKey)
	checkCheck(t, dict([]string{"a", "a", "\x00"}, bad, bad, bad), api.ErrTwice)
	checkCheck(t, dict([]string{"a", "\x00", "a"}, bad, bad, bad), api.ErrKey)
	checkCheck(t, dict([]string{"\x00", "\x00"}, bad, bad), api.ErrKey)
	checkCheck(t, dict([]string{"a", "b", "a"}, bad, bad, bad), api.ErrTwice)
	checkCheck(t, dict([]string{"a", "b"}, bad, bad), api.ErrKind)
	checkCheck(t, dict([]string{"a", "a"}, bad), api.ErrKind)
	checkCheck(t, dict([]string{"", "a", "A", "aa", "\x01"}, num(1), num(1), num(1), num(1), num(1)), api.OK)
	checkCheck(t, dict([]string{"a"}, dict([]string{"a"}, num(1))), api.OK)
	checkCheck(t, list(api.KKeys, word(api.KKey, "a"), word(api.KKey, "a")), api.OK)
	checkCheck(t, list(api.KKeys, word(api.KKey, "a"), word(api.KKey, "a\x00")), api.ErrKey)
}

// P6.1: 4096 nodes, in vectors and maps, and one more.
func TestCheckLimit(t *testing.T) {
	checkCheck(t, wide(4095, num(1)), api.OK)
	checkCheck(t, wide(4096, num(1)), api.ErrLimit)
	checkCheck(t, wide(63, wide(64, num(1))), api.OK)
	checkCheck(t, vec(wide(63, wide(64, num(1)))), api.ErrLimit)
	checkCheck(t, wide(5000, api.Node{}), api.ErrKind)
	for _, kind := range []int{api.KInts, api.KStr} {
		x := wide(5000, num(1))
		x.Kind = kind
		checkCheck(t, x, wantCheck(x))
		x.L[4999] = unsigned(1)
		checkCheck(t, x, api.ErrKind)
	}
}

// P6.1: the error of the 4096th node comes first, that of the 4097th node not at all.
func TestCheckAroundLimit(t *testing.T) {
	for _, bad := range []api.Node{{}, boolean(2), word(api.KKey, "\x00"), dict([]string{"a", "a"}, num(1), num(1)), dict([]string{"\x00"}, num(1))} {
		x := wide(4100, num(1))
		x.L[4094] = bad
		checkCheck(t, x, wantCheck(bad))
		x = wide(4100, num(1))
		x.L[4095] = bad
		checkCheck(t, x, api.ErrLimit)
	}
}

// P6.1: 64 levels in vectors and maps, and one more, with every error on the last level.
func TestCheckDeep(t *testing.T) {
	for _, bad := range []api.Node{{}, boolean(2), word(api.KKey, "\x00"), dict([]string{"a", "a"}, num(1), num(1))} {
		checkCheck(t, nested(63, bad), wantCheck(bad))
		checkCheck(t, nested(64, bad), api.ErrDeep)
		checkCheck(t, vec(bad, nested(64, num(1))), wantCheck(bad))
		checkCheck(t, vec(nested(64, num(1)), bad), api.ErrDeep)
	}
	x := num(1)
	for range 63 {
		x = dict([]string{"a"}, x)
	}
	checkCheck(t, x, api.OK)
	checkCheck(t, dict([]string{"a"}, x), api.ErrDeep)
	checkCheck(t, vec(num(1), num(1), x), api.ErrDeep)
}

// P6.1: the root, n leaves and 63 vectors come before a node that is 64 levels below the root.
func TestCheckLimitBeforeDeep(t *testing.T) {
	for n := 4020; n <= 4040; n++ {
		want := api.ErrDeep
		if n+65 >= 4097 {
			want = api.ErrLimit
		}
		for _, deep := range []api.Node{num(1), {}, word(api.KKey, "\x00")} {
			x := wide(n, num(1))
			x.L = append(x.L, nested(63, deep))
			checkCheck(t, x, want)
		}
	}
}

// P6.1: a map with very many keys.
func TestCheckOfManyKeys(t *testing.T) {
	const many = 200000
	keys := make([]string, many)
	for i := range keys {
		keys[i] = strconv.Itoa(i)
	}
	x := dict(keys, make([]api.Node, many)...)
	checkCheck(t, x, api.ErrKind)
	for i := range x.L {
		x.L[i] = num(1)
	}
	checkCheck(t, x, api.ErrLimit)
	keys[many-1] = "7"
	checkCheck(t, x, api.ErrTwice)
	keys[many-2] = "\x00"
	checkCheck(t, x, api.ErrKey)
}
