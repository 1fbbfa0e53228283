package key_test

import (
	"strconv"

	"accordion/api"
)

// The functions of this file follow the chapter's definitions literally; they share nothing with the package.

// wantLess looks for the first position at which two keys differ.
func wantLess(a, b string) bool {
	for i := 0; i < len(a) && i < len(b); i++ {
		if a[i] != b[i] {
			return a[i] < b[i]
		}
	}
	return len(a) < len(b)
}

// wantOrder puts each index at the place that is the number of lesser keys; two equal keys claim the same place.
func wantOrder(l []string) ([]int, api.Errno) {
	order := make([]int, len(l))
	taken := make([]bool, len(l))
	for i, k := range l {
		place := 0
		for _, other := range l {
			if wantLess(other, k) {
				place++
			}
		}
		if taken[place] {
			return nil, 71
		}
		taken[place] = true
		order[place] = i
	}
	return order, 0
}

// wantFind is the chapter's binary search.
func wantFind(l []string, k string) (int, bool) {
	lo, hi := 0, len(l)
	for lo < hi {
		mid := lo + (hi-lo)/2
		if wantLess(l[mid], k) {
			lo = mid + 1
		} else {
			hi = mid
		}
	}
	if lo < len(l) && l[lo] == k {
		return lo, true
	}
	return 0, false
}

// wantSorted is the sorted tree of a valid tree.
func wantSorted(t api.Node) api.Node {
	s := api.Node{Kind: t.Kind, N: t.N, U: t.U, S: t.S}
	for i := range t.L {
		from := i
		if t.Kind == 17 {
			order, _ := wantOrder(t.Keys)
			from = order[i]
			s.Keys = append(s.Keys, t.Keys[from])
		}
		s.L = append(s.L, wantSorted(t.L[from]))
	}
	return s
}

func wantSame(a, b api.Node) bool {
	if a.Kind != b.Kind || a.N != b.N || a.U != b.U || a.S != b.S || len(a.Keys) != len(b.Keys) || len(a.L) != len(b.L) {
		return false
	}
	for i := range a.Keys {
		if a.Keys[i] != b.Keys[i] {
			return false
		}
	}
	for i := range a.L {
		if !wantSame(a.L[i], b.L[i]) {
			return false
		}
	}
	return true
}

// isSorted follows the definition of a sorted tree.
func isSorted(t api.Node) bool {
	for i := 1; t.Kind == 17 && i < len(t.Keys); i++ {
		if !wantLess(t.Keys[i-1], t.Keys[i]) {
			return false
		}
	}
	for _, child := range t.L {
		if !isSorted(child) {
			return false
		}
	}
	return true
}

func count(t api.Node) int {
	n := 1
	for _, child := range t.L {
		n += count(child)
	}
	return n
}

// clone copies a tree together with the unused capacity of its slices.
func clone(t api.Node) api.Node {
	if t.Keys != nil {
		keys := make([]string, cap(t.Keys))
		copy(keys, t.Keys[:cap(t.Keys)])
		t.Keys = keys[:len(t.Keys)]
	}
	if t.L != nil {
		l := make([]api.Node, cap(t.L))
		for i, child := range t.L[:cap(t.L)] {
			l[i] = clone(child)
		}
		t.L = l[:len(t.L)]
	}
	return t
}

// whole makes a tree in which the unused capacity of the slices is used.
func whole(t api.Node) api.Node {
	t = clone(t)
	t.Keys = t.Keys[:cap(t.Keys)]
	t.L = t.L[:cap(t.L)]
	for i, child := range t.L {
		t.L[i] = whole(child)
	}
	return t
}

// short describes a tree in a message, which remains readable if the tree is large.
func short(x api.Node) string {
	if n := count(x); n > 50 {
		return "a tree of " + strconv.Itoa(n) + " nodes"
	}
	s := "kind " + strconv.Itoa(x.Kind) + " N " + strconv.FormatInt(x.N, 10) + " U " + strconv.FormatUint(x.U, 10) + " S " + strconv.Quote(x.S) + " Keys"
	for _, k := range x.Keys {
		s += " " + strconv.Quote(k)
	}
	for _, child := range x.L {
		s += " (" + short(child) + ")"
	}
	return s
}
