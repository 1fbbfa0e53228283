package print

import (
	"iter"
	"strconv"
	"strings"

	"accordion/api"
	"accordion/b64"
	"accordion/key"
	"accordion/utf"
)

// writer builds the text of a tree. It visits the whole tree even if there will be no text, because an invalid string anywhere counts more than a text that is too long.
type writer struct {
	strings.Builder
	invalid bool // a string that is not valid UTF-8 has been met
	over    bool // the text is too long
}

// value writes the text of a valid tree.
func (w *writer) value(t api.Node) {
	switch t.Kind {
	case api.KNull:
		w.put("null")
	case api.KBool:
		w.put(strconv.FormatBool(t.N == 1))
	case api.KInt, api.KIndInt:
		w.put(strconv.FormatInt(t.N, 10))
	case api.KUint, api.KIndUint:
		w.put(strconv.FormatUint(t.U, 10))
	case api.KKey, api.KStr:
		w.literal(t.S)
	case api.KBlob:
		w.blob(t.S)
	case api.KMap:
		w.mapping(t)
	default: // the vectors of all kinds
		w.vector(t.L)
	}
}

// literal writes a string. One that is too long by itself is not quoted, because its literal may be many times as long.
func (w *writer) literal(s string) {
	switch {
	case !utf.Valid(s):
		w.invalid = true
	case w.fits(len(s)):
		literal, _ := utf.Quote(s)
		w.put(literal)
	}
}

func (w *writer) blob(s string) {
	if w.fits(len(s)) {
		w.put(`"` + b64.Put([]byte(s)) + `"`)
	}
}

func (w *writer) vector(l []api.Node) {
	between := ""
	w.put("[")
	for _, child := range l {
		w.put(between)
		w.value(child)
		between = ","
	}
	w.put("]")
}

func (w *writer) mapping(t api.Node) {
	between := ""
	w.put("{")
	for k, value := range entries(t) {
		w.put(between)
		w.literal(k)
		w.put(":")
		w.value(value)
		between = ","
	}
	w.put("}")
}

// put writes a part of the text, unless the text becomes too long by it.
func (w *writer) put(part string) {
	if w.fits(len(part)) {
		w.WriteString(part)
	}
}

// fits reports whether the text has room for so many bytes. Where it has not, it is too long from then on.
func (w *writer) fits(n int) bool {
	w.over = w.over || n > api.MaxText-w.Len()
	return !w.over
}

// entries yields the keys of a valid map in ascending order, each with its value.
func entries(t api.Node) iter.Seq2[string, api.Node] {
	return func(yield func(k string, value api.Node) bool) {
		order, _ := key.Order(t.Keys)
		for _, i := range order {
			if !yield(t.Keys[i], t.L[i]) {
				return
			}
		}
	}
}
