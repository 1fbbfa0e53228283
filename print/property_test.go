package print_test

import (
	"encoding/json"
	"regexp"
	"slices"
	"strings"
	"testing"

	"accordion/api"
	"accordion/normal"
	"accordion/parse"
	"accordion/print"
	"accordion/tree"
)

func textOf(t *testing.T, x api.Node) string {
	t.Helper()
	s, e := print.Print(x)
	if e != api.OK {
		t.Fatalf("Print(%s): %d", short(x), e)
	}
	return s
}

// P12.3: the text of a tree without blobs parses into its normal form; any text is JSON for another reader too.
func TestTextsAreParsed(t *testing.T) {
	long := []api.Node{str(filler(most - 2)), str(strings.Repeat("\x1f", (most-2)/6)), entry(filler(most-6), num(1)), nested(63), wide(4095), shared()}
	for _, x := range append(validTrees(), long...) {
		s := textOf(t, x)
		if !json.Valid([]byte(s)) {
			t.Errorf("Print(%s) = %s is not JSON", short(x), brief(s))
		}
		got, at, e := parse.Parse(s)
		if e != api.OK {
			t.Errorf("Parse(%s): %d at %d", brief(s), e, at)
		}
		want, _ := normal.Of(x)
		if !hasBlobs(x) && !tree.Same(got, want) {
			t.Errorf("Parse(%s) = %s; want %s", brief(s), short(got), short(want))
		}
	}
}

// P12.3: a parsed tree has a text, which parses into the sorted tree and is not longer than the input.
func TestParsedTrees(t *testing.T) {
	inputs := []string{
		"-0", " [ ] ", "{\t}", `"\u0061\/\u000a"`, `"\uD83D\uDE00"`, `{"b" : [1, -2], "a": "\u20AC"}`, "[18446744073709551615,\n-9223372036854775808]", `{"\u0022":{"\\":"\u0008"}}`, `["\u001F","\u0000", "\u007f"]`,
		strings.Repeat("[", 64) + strings.Repeat("]", 64), strings.Repeat(`{"":`, 63) + "{}" + strings.Repeat("}", 63), "[" + strings.Repeat("{},", 4094) + "{}]",
		`"` + filler(most-2) + `"`, "[" + strings.Repeat(" ", most-2) + "]", `{"` + filler(most/2) + `":"` + filler(most/2-7) + `"}`,
		`"` + strings.Repeat(`\u0001`, (most-2)/6) + `"`, `"` + strings.Repeat(`\n`, most/2-1) + `"`, `"` + strings.Repeat("\u20ac", (most-2)/3) + `"`,
	}
	for _, x := range validTrees() {
		inputs = append(inputs, wantText(x))
	}
	for _, input := range inputs {
		x, at, e := parse.Parse(input)
		if e != api.OK {
			t.Fatalf("Parse(%s): %d at %d", brief(input), e, at)
		}
		s := textOf(t, x)
		if len(s) > len(input) {
			t.Errorf("the text of the tree of %s has %d bytes", brief(input), len(s))
		}
		if y, _, e := parse.Parse(s); e != api.OK || !normal.Alike(x, y) {
			t.Errorf("the text %s of the tree of %s is that of another tree", brief(s), brief(input))
		}
	}
}

// P12.4: trees without blobs are alike exactly if their texts are equal.
func TestTextsOfAlikeTrees(t *testing.T) {
	l := slices.DeleteFunc(plainTrees(), hasBlobs)
	alike := 0
	for _, a := range l {
		for _, b := range l {
			is := normal.Alike(a, b)
			if is {
				alike++
			}
			if equal := textOf(t, a) == textOf(t, b); equal != is {
				t.Errorf("%s and %s: alike %t, equal texts %t", short(a), short(b), is, equal)
			}
		}
	}
	if alike < 2*len(l) {
		t.Errorf("only %d pairs of %d trees are alike", alike, len(l))
	}
}

// P12.4: a tree is alike to its normal form, so both have the same text.
func TestTextsOfNormalForms(t *testing.T) {
	for _, x := range append(validTrees(), nested(63), wide(4095), shared()) {
		y, _ := normal.Of(x)
		yields(t, y, textOf(t, x))
	}
}

// P12.5: the text of every vector and map of a tree consists of the texts of its parts.
func TestTextsOfParts(t *testing.T) {
	for _, x := range append(validTrees(), nested(63), wide(1000), shared()) {
		for n := range tree.Size(x) {
			part, _ := tree.At(x, n)
			if n < 100 && !tree.Leaf(part.Kind) {
				checkParts(t, part)
			}
		}
	}
}

func checkParts(t *testing.T, x api.Node) {
	t.Helper()
	open, shut := "[", "]"
	var parts []string
	for i, child := range x.L {
		part := textOf(t, child)
		if x.Kind == api.KMap {
			part = textOf(t, str(x.Keys[i])) + ":" + part
		}
		parts = append(parts, part)
	}
	if x.Kind == api.KMap {
		open, shut = "{", "}"
		byKey := map[string]string{}
		for i, k := range x.Keys {
			byKey[k] = parts[i]
		}
		for i, k := range slices.Sorted(slices.Values(x.Keys)) {
			parts[i] = byKey[k]
		}
	}
	yields(t, x, open+strings.Join(parts, ",")+shut)
}

// literals matches the literals of a text.
var literals = regexp.MustCompile(`"([^"\\]|\\.)*"`)

// P12.6: a text has no byte below 20, and spaces only within literals.
func TestBytesOfTexts(t *testing.T) {
	all := make([]byte, 0x80)
	for i := range all {
		all[i] = byte(i)
	}
	mixed := dict([]string{string(all[1:]), " ", "a"}, str(string(all)), vec(name(" \n "), blob(string(all))), list(api.KKeys, name(" "), name("\t")))
	for _, x := range append(validTrees(), mixed, nested(63), wide(4095), shared()) {
		s := textOf(t, x)
		for i := range len(s) {
			if s[i] < 0x20 {
				t.Errorf("Print(%s) = %s has the byte %d", short(x), brief(s), s[i])
			}
		}
		if strings.Contains(literals.ReplaceAllString(s, ""), " ") {
			t.Errorf("Print(%s) = %s has a space outside of literals", short(x), brief(s))
		}
	}
}
