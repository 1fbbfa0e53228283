package path_test

import (
	"regexp"
	"strconv"
	"strings"
	"unicode/utf8"

	"accordion/api"
	"accordion/utf"
)

// The functions of this file follow the chapter's definitions with its own numbers; of the program they use only utf, to which the chapter refers.

func wantValid(step api.Step) bool {
	if step.ByKey {
		return step.At == 0 && utf8.ValidString(step.Key) && !strings.Contains(step.Key, "\x00")
	}
	return step.Key == "" && step.At >= 0 && step.At <= 999999999
}

// wantShow is P8.1.
func wantShow(p []api.Step) (string, api.Errno) {
	if len(p) > 64 {
		return "", 5
	}
	s := ""
	for _, step := range p {
		if !wantValid(step) {
			return "", 2
		}
		text := strconv.FormatInt(int64(step.At), 10)
		if step.ByKey {
			text, _ = utf.Quote(step.Key)
		}
		s += "[" + text + "]"
	}
	return s, 0
}

type parsed struct {
	p  []api.Step
	at int
	e  api.Errno
}

var (
	digits = regexp.MustCompile(`^[0-9]+`)
	number = regexp.MustCompile(`^(0|[1-9][0-9]{0,8})$`)
)

// wantParse is P8.2.
func wantParse(s string) parsed {
	var p []api.Step
	for at := 0; at < len(s); {
		if len(p) == 64 {
			return parsed{nil, at, 5}
		}
		step, n, wrong, e := wantStep(s[at:])
		if e != 0 {
			return parsed{nil, at + wrong, e}
		}
		p = append(p, step)
		at += n
	}
	return parsed{p, 0, 0}
}

// wantStep returns the step at the start of s and the length of its text, or the offset of an error.
func wantStep(s string) (step api.Step, n, wrong int, e api.Errno) {
	if s[0] != '[' {
		return api.Step{}, 0, 0, 4
	}
	inner := s[1:]
	if d := digits.FindString(inner); d != "" {
		if !number.MatchString(d) {
			return api.Step{}, 0, 1, 4
		}
		value, err := strconv.ParseInt(d, 10, 64)
		if err != nil {
			panic(err)
		}
		step, n = api.Step{At: int(value)}, len(d)
	} else if inner != "" && inner[0] == '"' {
		text, length, at, e := utf.Unquote(inner)
		if e != 0 {
			return api.Step{}, 0, 1 + at, e
		}
		if strings.Contains(text, "\x00") {
			return api.Step{}, 0, 1, 70
		}
		step, n = api.Step{ByKey: true, Key: text}, length
	} else {
		return api.Step{}, 0, 1, 4
	}
	if rest := inner[n:]; rest == "" || rest[0] != ']' {
		return api.Step{}, 0, 1 + n, 4
	}
	return step, n + 2, 0, 0
}

// wantPlace returns the indices of the children to which the steps of a path lead.
func wantPlace(t api.Node, p []api.Step) ([]int, bool) {
	place := []int{}
	for _, step := range p {
		i, is := wantChild(t, step)
		if !is {
			return nil, false
		}
		place = append(place, i)
		t = t.L[i]
	}
	return place, true
}

func wantChild(t api.Node, step api.Step) (int, bool) {
	if !step.ByKey {
		return step.At, step.At >= 0 && step.At <= len(t.L)-1
	}
	if t.Kind != 17 {
		return 0, false
	}
	for i, k := range t.Keys {
		if k == step.Key {
			return i, i < len(t.L)
		}
	}
	return 0, false
}

// nodeAt returns a place of a tree that may be overwritten.
func nodeAt(t *api.Node, place []int) *api.Node {
	for _, i := range place {
		t = &t.L[i]
	}
	return t
}

// wantGet is P8.3.
func wantGet(t api.Node, p []api.Step) (api.Node, api.Errno) {
	place, is := wantPlace(t, p)
	if !is {
		return api.Node{}, 80
	}
	return *nodeAt(&t, place), 0
}

// wantReplaced is the tree that P8.4 describes, checked or not.
func wantReplaced(t api.Node, p []api.Step, n api.Node) (api.Node, bool) {
	place, is := wantPlace(t, p)
	if !is {
		return api.Node{}, false
	}
	t = clone(t)
	*nodeAt(&t, place) = n
	return t, true
}

func wantSame(a, b api.Node) bool {
	if a.Kind != b.Kind || a.N != b.N || a.U != b.U || a.S != b.S || len(a.Keys) != len(b.Keys) || len(a.L) != len(b.L) {
		return false
	}
	for i := range a.Keys {
		if a.Keys[i] != b.Keys[i] {
			return false
		}
	}
	for i := range a.L {
		if !wantSame(a.L[i], b.L[i]) {
			return false
		}
	}
	return true
}

func count(t api.Node) int {
	n := 1
	for _, child := range t.L {
		n += count(child)
	}
	return n
}

// clone copies a tree together with the unused capacity of its slices.
func clone(t api.Node) api.Node {
	if t.Keys != nil {
		keys := make([]string, cap(t.Keys))
		copy(keys, t.Keys[:cap(t.Keys)])
		t.Keys = keys[:len(t.Keys)]
	}
	if t.L != nil {
		l := make([]api.Node, cap(t.L))
		for i, child := range t.L[:cap(t.L)] {
			l[i] = clone(child)
		}
		t.L = l[:len(t.L)]
	}
	return t
}

// whole makes a tree in which the unused capacity of the slices is used.
func whole(t api.Node) api.Node {
	t = clone(t)
	t.Keys = t.Keys[:cap(t.Keys)]
	t.L = t.L[:cap(t.L)]
	for i, child := range t.L {
		t.L[i] = whole(child)
	}
	return t
}

// short describes a tree in a message, which remains readable if the tree is large.
func short(x api.Node) string {
	if n := count(x); n > 50 {
		return "a tree of " + strconv.Itoa(n) + " nodes"
	}
	s := "kind " + strconv.Itoa(x.Kind) + " N " + strconv.FormatInt(x.N, 10) + " U " + strconv.FormatUint(x.U, 10) + " S " + strconv.Quote(x.S) + " Keys"
	for _, k := range x.Keys {
		s += " " + strconv.Quote(k)
	}
	for _, child := range x.L {
		s += " (" + short(child) + ")"
	}
	return s
}

// brief describes a path in a message, valid or not.
func brief(p []api.Step) string {
	if len(p) > 100 {
		return "a path of " + strconv.Itoa(len(p)) + " steps"
	}
	s := "path"
	for _, step := range p {
		s += " " + strconv.Itoa(step.At)
		if step.ByKey {
			s += " by key"
		}
		s += " " + strconv.Quote(step.Key)
	}
	return s
}
