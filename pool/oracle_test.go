package pool_test

import (
	"slices"
	"strconv"
	"strings"
	"testing"

	"accordion/api"
	"accordion/pool"
)

// The model follows the chapter, with its own numbers; of the program it uses only the type of the error numbers.

const (
	errArg   = 2
	errTwice = 71
)

const most = 9007199254740991 // 2^53 - 1

// model is a pool as the section 'Definitions' describes it, without an order.
type model map[string]int

// put is P15.1.
func (m model) put(k string, at int) api.Errno {
	if at < 0 || at > most {
		return errArg
	}
	if _, is := m[k]; is {
		return errTwice
	}
	m[k] = at
	return 0
}

// list is P15.2: each string has as many strings before it as there are lesser ones.
func (m model) list() []string {
	l := make([]string, len(m))
	for k := range m {
		before := 0
		for other := range m {
			if wantLess(other, k) {
				before++
			}
		}
		l[before] = k
	}
	return l
}

// wantLess compares as chapter 7 says, byte by byte.
func wantLess(a, b string) bool {
	for i := range min(len(a), len(b)) {
		if a[i] != b[i] {
			return a[i] < b[i]
		}
	}
	return len(a) < len(b)
}

// call is a call of Put.
type call struct {
	text   string
	number int
}

func (c call) String() string {
	return "Put(" + brief(c.text) + ", " + strconv.Itoa(c.number) + ")"
}

// run makes the calls one after the other on a new pool and on the model, and compares the results and the pools after each call; it looks up the strings of the calls and others.
func run(t *testing.T, others []string, l ...call) {
	t.Helper()
	p, m := pool.New(), model{}
	asked := slices.Clone(others)
	for _, c := range l {
		asked = append(asked, c.text)
	}
	holds(t, "New", p, m, asked)
	for i, c := range l {
		want := m.put(c.text, c.number)
		if e := p.Put(c.text, c.number); e != want {
			t.Errorf("%s: %d, want %d", names(l[:i+1]), e, want)
		}
		holds(t, names(l[:i+1]), p, m, asked)
	}
}

// holds checks that a pool contains exactly what the model contains.
func holds(t *testing.T, after string, p *pool.Pool, m model, asked []string) {
	t.Helper()
	lists(t, after, p, m.list()...)
	for _, k := range asked {
		want, wantIs := m[k]
		if at, is := p.Get(k); at != want || is != wantIs {
			t.Errorf("after %s: Get(%s) is %d, %t; want %d, %t", after, brief(k), at, is, want, wantIs)
		}
	}
}

// lists checks the number of the strings of a pool and the strings.
func lists(t *testing.T, after string, p *pool.Pool, want ...string) {
	t.Helper()
	if n := p.Len(); n != len(want) {
		t.Errorf("after %s: Len %d, want %d", after, n, len(want))
	}
	if got := p.List(); !slices.Equal(got, want) {
		t.Errorf("after %s: List is %s; want %s", after, show(got), show(want))
	}
}

// brief quotes a string, or its start if it is long.
func brief(s string) string {
	if len(s) > 40 {
		return strconv.Quote(s[:20]) + ".. (" + strconv.Itoa(len(s)) + " bytes)"
	}
	return strconv.Quote(s)
}

// show shortens a list of strings for a message.
func show(l []string) string {
	var s []string
	for _, k := range l[:min(len(l), 12)] {
		s = append(s, brief(k))
	}
	if len(l) > 12 {
		s = append(s, ".. ("+strconv.Itoa(len(l))+" strings)")
	}
	return strings.Join(s, " ")
}

func names(l []call) string {
	var s []string
	for _, c := range l {
		s = append(s, c.String())
	}
	return strings.Join(s, ", ")
}
