package pool

import (
	"strings"
	"testing"
	"unsafe"

	"accordion/api"
)

// The test of this file looks into the pool, because the memory that it keeps shows in no result.

// shares reports whether the bytes of a string that is not empty lie within those of a text.
func shares(text, s string) bool {
	for i := range len(text) {
		if unsafe.StringData(text[i:]) == unsafe.StringData(s) {
			return true
		}
	}
	return false
}

// R2, P15.3: a pool does not keep the bytes of the strings that are put into it or asked for, and does not give its own away.
func TestStringsAreCopies(t *testing.T) {
	text := strings.Repeat("abc", 10)
	p := New()
	for i, k := range []string{text[:3], text, text[1:5], text[29:]} {
		if e := p.Put(k, i); e != api.OK {
			t.Errorf("Put(%q, %d): %d", k, i, e)
		}
		p.Put(k, i)
		p.Get(k)
	}
	first, second := p.List(), p.List()
	for i, own := range p.entries {
		if shares(text, own.text) {
			t.Errorf("the pool keeps the bytes of the argument %q", own.text)
		}
		if shares(own.text, first[i]) || shares(own.text, second[i]) || shares(first[i], second[i]) {
			t.Errorf("two of the pool and two lists share the bytes of %q", own.text)
		}
	}
}
