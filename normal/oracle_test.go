package normal_test

import (
	"strconv"

	"accordion/api"
)

// The functions of this file follow the chapter's definitions literally; they share nothing with the package.

// wantForm is the normal form of a valid tree, by the chapter's table.
func wantForm(t api.Node) api.Node {
	switch t.Kind {
	case 4, 9:
		if t.U <= 1<<63-1 {
			return api.Node{Kind: 3, N: int64(t.U)}
		}
		return api.Node{Kind: 4, U: t.U}
	case 8:
		return api.Node{Kind: 3, N: t.N}
	case 5:
		return api.Node{Kind: 6, S: t.S}
	case 10, 11, 12, 13, 14, 15, 16:
		form := api.Node{Kind: 10}
		for _, child := range t.L {
			form.L = append(form.L, wantForm(child))
		}
		return form
	case 17:
		form := api.Node{Kind: 17}
		for _, from := range increasing(t.Keys) {
			form.Keys = append(form.Keys, t.Keys[from])
			form.L = append(form.L, wantForm(t.L[from]))
		}
		return form
	}
	return t
}

// increasing returns the indices of distinct keys, each at the place that is the number of lesser keys.
func increasing(keys []string) []int {
	order := make([]int, len(keys))
	for i, k := range keys {
		place := 0
		for _, other := range keys {
			if other < k {
				place++
			}
		}
		order[place] = i
	}
	return order
}

// wantSorted is the sorted tree of a valid tree.
func wantSorted(t api.Node) api.Node {
	s := api.Node{Kind: t.Kind, N: t.N, U: t.U, S: t.S}
	order := increasing(t.Keys)
	for i := range t.L {
		from := i
		if t.Kind == 17 {
			from = order[i]
			s.Keys = append(s.Keys, t.Keys[from])
		}
		s.L = append(s.L, wantSorted(t.L[from]))
	}
	return s
}

// value describes the JSON-like value that a valid tree represents, without any mark of its tagging.
func value(t api.Node) string {
	switch t.Kind {
	case 1:
		return "null"
	case 2:
		return strconv.FormatBool(t.N == 1)
	case 3, 8:
		return strconv.FormatInt(t.N, 10)
	case 4, 9:
		return strconv.FormatUint(t.U, 10)
	case 5, 6:
		return strconv.Quote(t.S)
	case 7:
		return "blob " + strconv.Quote(t.S)
	case 17:
		s := "{"
		for _, from := range increasing(t.Keys) {
			s += strconv.Quote(t.Keys[from]) + ":" + value(t.L[from]) + ","
		}
		return s + "}"
	}
	s := "["
	for _, child := range t.L {
		s += value(child) + ","
	}
	return s + "]"
}

func wantSame(a, b api.Node) bool {
	if a.Kind != b.Kind || a.N != b.N || a.U != b.U || a.S != b.S || len(a.Keys) != len(b.Keys) || len(a.L) != len(b.L) {
		return false
	}
	for i := range a.Keys {
		if a.Keys[i] != b.Keys[i] {
			return false
		}
	}
	for i := range a.L {
		if !wantSame(a.L[i], b.L[i]) {
			return false
		}
	}
	return true
}

func count(t api.Node) int {
	n := 1
	for _, child := range t.L {
		n += count(child)
	}
	return n
}

func depth(t api.Node) int {
	deepest := 0
	for _, child := range t.L {
		deepest = max(deepest, depth(child))
	}
	return deepest + 1
}

// clone copies a tree together with the unused capacity of its slices.
func clone(t api.Node) api.Node {
	if t.Keys != nil {
		keys := make([]string, cap(t.Keys))
		copy(keys, t.Keys[:cap(t.Keys)])
		t.Keys = keys[:len(t.Keys)]
	}
	if t.L != nil {
		l := make([]api.Node, cap(t.L))
		for i, child := range t.L[:cap(t.L)] {
			l[i] = clone(child)
		}
		t.L = l[:len(t.L)]
	}
	return t
}

// whole makes a tree in which the unused capacity of the slices is used.
func whole(t api.Node) api.Node {
	t = clone(t)
	t.Keys = t.Keys[:cap(t.Keys)]
	t.L = t.L[:cap(t.L)]
	for i, child := range t.L {
		t.L[i] = whole(child)
	}
	return t
}

// short describes a tree in a message, which remains readable if the tree is large.
func short(x api.Node) string {
	if n := count(x); n > 50 {
		return "a tree of " + strconv.Itoa(n) + " nodes"
	}
	s := "kind " + strconv.Itoa(x.Kind) + " N " + strconv.FormatInt(x.N, 10) + " U " + strconv.FormatUint(x.U, 10) + " S " + strconv.Quote(x.S) + " Keys"
	for _, k := range x.Keys {
		s += " " + strconv.Quote(k)
	}
	for _, child := range x.L {
		s += " (" + short(child) + ")"
	}
	return s
}
