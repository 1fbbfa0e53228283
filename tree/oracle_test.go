package tree_test

import (
	"strconv"
	"strings"

	"accordion/api"
)

// The functions of this file follow the chapter's definitions with its own numbers; they share nothing with the package.

// placed is a node and its level below the root.
type placed struct {
	node  api.Node
	level int
}

// preorder lists a node before its children, and each child with all its descendants before the next one.
func preorder(t api.Node) []placed {
	var l []placed
	var add func(t api.Node, level int)
	add = func(t api.Node, level int) {
		l = append(l, placed{t, level})
		for _, child := range t.L {
			add(child, level+1)
		}
	}
	add(t, 0)
	return l
}

// wantCheck is the first error of P6.1.
func wantCheck(t api.Node) api.Errno {
	for i, p := range preorder(t) {
		if i+1 >= 4097 {
			return 5
		}
		if p.level >= 64 {
			return 61
		}
		if !wantKind(p.node) {
			return 60
		}
		if e := wantKeys(p.node); e != 0 {
			return e
		}
	}
	return 0
}

// wantKind reads the table row by row: first the fields that the row does not name, then what it says of the others.
func wantKind(t api.Node) bool {
	noN, noU, noS, noKeys, noL := t.N == 0, t.U == 0, t.S == "", len(t.Keys) == 0, len(t.L) == 0
	switch t.Kind {
	case 1:
		return noN && noU && noS && noKeys && noL
	case 2:
		return noU && noS && noKeys && noL && t.N >= 0 && t.N <= 1
	case 3, 8:
		return noU && noS && noKeys && noL
	case 4, 9:
		return noN && noS && noKeys && noL
	case 5, 6, 7:
		return noN && noU && noKeys && noL
	case 10:
		return noN && noU && noS && noKeys
	case 11, 12, 13, 14:
		elem := map[int]int{11: 3, 12: 4, 13: 5, 14: 2}[t.Kind]
		return noN && noU && noS && noKeys && count(t.L, elem) == len(t.L)
	case 15, 16:
		elem := map[int]int{15: 3, 16: 4}[t.Kind]
		return noN && noU && noS && noKeys && count(t.L, elem) == len(t.L) && len(t.L) >= 2 && len(t.L) <= 4
	case 17:
		return noN && noU && noS && len(t.Keys) == len(t.L)
	}
	return false
}

func count(l []api.Node, kind int) int {
	n := 0
	for _, child := range l {
		if child.Kind == kind {
			n++
		}
	}
	return n
}

// wantKeys compares each key with every earlier one.
func wantKeys(t api.Node) api.Errno {
	if t.Kind == 5 && strings.Contains(t.S, "\x00") {
		return 70
	}
	for i, k := range t.Keys {
		if strings.Contains(k, "\x00") {
			return 70
		}
		for _, earlier := range t.Keys[:i] {
			if k == earlier {
				return 71
			}
		}
	}
	return 0
}

func wantSame(a, b api.Node) bool {
	if a.Kind != b.Kind || a.N != b.N || a.U != b.U || a.S != b.S || len(a.Keys) != len(b.Keys) || len(a.L) != len(b.L) {
		return false
	}
	for i := range a.Keys {
		if a.Keys[i] != b.Keys[i] {
			return false
		}
	}
	for i := range a.L {
		if !wantSame(a.L[i], b.L[i]) {
			return false
		}
	}
	return true
}

// clone copies a tree together with the unused capacity of its slices.
func clone(t api.Node) api.Node {
	if t.Keys != nil {
		keys := make([]string, cap(t.Keys))
		copy(keys, t.Keys[:cap(t.Keys)])
		t.Keys = keys[:len(t.Keys)]
	}
	if t.L != nil {
		l := make([]api.Node, cap(t.L))
		for i, child := range t.L[:cap(t.L)] {
			l[i] = clone(child)
		}
		t.L = l[:len(t.L)]
	}
	return t
}

// whole makes a tree in which the unused capacity of the slices is used.
func whole(t api.Node) api.Node {
	t = clone(t)
	t.Keys = t.Keys[:cap(t.Keys)]
	t.L = t.L[:cap(t.L)]
	for i, child := range t.L {
		t.L[i] = whole(child)
	}
	return t
}

// short describes a tree in a message, which remains readable if the tree is large.
func short(x api.Node) string {
	if n := len(preorder(x)); n > 50 {
		return "a tree of " + strconv.Itoa(n) + " nodes"
	}
	s := "kind " + strconv.Itoa(x.Kind) + " N " + strconv.FormatInt(x.N, 10) + " U " + strconv.FormatUint(x.U, 10) + " S " + strconv.Quote(x.S) + " Keys"
	for _, k := range x.Keys {
		s += " " + strconv.Quote(k)
	}
	for _, child := range x.L {
		s += " (" + short(child) + ")"
	}
	return s
}
