package print_test

import (
	"encoding/base64"
	"fmt"
	"math/big"
	"slices"
	"strconv"
	"strings"
	"unicode/utf8"

	"accordion/api"
	"accordion/tree"
)

// The functions of this file follow the chapter's definitions with its own numbers. They share nothing with the package but the lower layer tree.

// shortItems holds the items of two bytes of short literals.
var shortItems = map[byte]string{0x22: `\"`, 0x5c: `\\`, 8: `\b`, 0xc: `\f`, 0xa: `\n`, 0xd: `\r`, 9: `\t`}

// wantLiteral is the short literal of valid UTF-8, in which a byte below 80 is always a scalar value of its own.
func wantLiteral(s string) string {
	var b strings.Builder
	for i := range len(s) {
		if item, is := shortItems[s[i]]; is {
			b.WriteString(item)
		} else if s[i] < 0x20 {
			fmt.Fprintf(&b, `\u%04x`, s[i])
		} else {
			b.WriteByte(s[i])
		}
	}
	return `"` + b.String() + `"`
}

// wantText is the text of a valid tree without invalid UTF-8, by the chapter's table.
func wantText(t api.Node) string {
	switch t.Kind {
	case 1:
		return "null"
	case 2:
		return []string{"false", "true"}[t.N]
	case 3, 8:
		return big.NewInt(t.N).String()
	case 4, 9:
		return new(big.Int).SetUint64(t.U).String()
	case 5, 6:
		return wantLiteral(t.S)
	case 7:
		return `"` + base64.StdEncoding.EncodeToString([]byte(t.S)) + `"`
	case 17:
		return "{" + strings.Join(wantEntries(t), ",") + "}"
	}
	var parts []string
	for _, child := range t.L {
		parts = append(parts, wantText(child))
	}
	return "[" + strings.Join(parts, ",") + "]"
}

// wantEntries holds the texts of the entries of a map by ascending keys.
func wantEntries(t api.Node) []string {
	at := map[string]int{}
	for i, k := range t.Keys {
		at[k] = i
	}
	var l []string
	for _, k := range slices.Sorted(slices.Values(t.Keys)) {
		l = append(l, wantLiteral(k)+":"+wantText(t.L[at[k]]))
	}
	return l
}

// wantUtf reports whether the strings for which it is asked are valid UTF-8.
func wantUtf(t api.Node) bool {
	if (t.Kind == 5 || t.Kind == 6) && !utf8.ValidString(t.S) {
		return false
	}
	for _, k := range t.Keys {
		if !utf8.ValidString(k) {
			return false
		}
	}
	for _, child := range t.L {
		if !wantUtf(child) {
			return false
		}
	}
	return true
}

// wantPrint is P12.1.
func wantPrint(t api.Node) (string, api.Errno) {
	if e := tree.Check(t); e != 0 {
		return "", e
	}
	if !wantUtf(t) {
		return "", 40
	}
	if s := wantText(t); len(s) <= 1<<20 {
		return s, 0
	}
	return "", 5
}

// hasBlobs reports whether a tree has a blob.
func hasBlobs(t api.Node) bool {
	return t.Kind == 7 || slices.ContainsFunc(t.L, hasBlobs)
}

func count(t api.Node) int {
	n := 1
	for _, child := range t.L {
		n += count(child)
	}
	return n
}

// clone copies a tree together with the unused capacity of its slices.
func clone(t api.Node) api.Node {
	if t.Keys != nil {
		keys := make([]string, cap(t.Keys))
		copy(keys, t.Keys[:cap(t.Keys)])
		t.Keys = keys[:len(t.Keys)]
	}
	if t.L != nil {
		l := make([]api.Node, cap(t.L))
		for i, child := range t.L[:cap(t.L)] {
			l[i] = clone(child)
		}
		t.L = l[:len(t.L)]
	}
	return t
}

// whole makes a tree in which the unused capacity of the slices is used.
func whole(t api.Node) api.Node {
	t = clone(t)
	t.Keys = t.Keys[:cap(t.Keys)]
	t.L = t.L[:cap(t.L)]
	for i, child := range t.L {
		t.L[i] = whole(child)
	}
	return t
}

// short describes a tree in a message, which remains readable if the tree is large.
func short(x api.Node) string {
	if n := count(x); n > 50 {
		return "a tree of " + strconv.Itoa(n) + " nodes"
	}
	s := fmt.Sprintf("kind %d N %d U %d S %s Keys", x.Kind, x.N, x.U, brief(x.S))
	for _, k := range x.Keys {
		s += " " + brief(k)
	}
	for _, child := range x.L {
		s += " (" + short(child) + ")"
	}
	return s
}

// brief quotes a string, or its start if it is long.
func brief(s string) string {
	if len(s) > 200 {
		return strconv.Quote(s[:40]) + ".. " + strconv.Itoa(len(s)) + " bytes"
	}
	return strconv.Quote(s)
}
