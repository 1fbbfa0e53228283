package fit_test

import (
	"math"
	"strconv"
	"strings"
	"testing"

	"accordion/api"
	"accordion/fit"
)

// The model follows the chapter's definitions, with its own numbers; of the program it uses only the type of values.

const (
	furthest = 1073741824 // 2^30
	most     = 1048576    // 2^20
)

// ordered holds the widths from the least to the greatest.
var ordered = []int{1, 2, 4, 8}

// fitsNumber tells whether a number is less than 2^(8 w).
func fitsNumber(n uint64, w int) bool {
	switch w {
	case 1:
		return n < 256
	case 2:
		return n < 65536
	case 4:
		return n < 4294967296
	}
	return true
}

// positionAt is the position of an element: the start of the vector is searched from the bytes written upwards.
func positionAt(at, index, w int) uint64 {
	start := at
	for start%w != 0 {
		start++
	}
	return uint64(start) + uint64(index)*uint64(w)
}

// fitsAt is the definition of a value that fits an element.
func fitsAt(v api.Value, at, index, w int) bool {
	switch v.Type {
	case 0, 1, 2, 26:
		return v.Width <= w
	}
	return v.N <= uint64(at) && fitsNumber(positionAt(at, index, w)-v.N, w)
}

// wantOne is P16.1.
func wantOne(v api.Value, at, index int) int {
	if at < 0 || at > furthest || index < 0 || index > furthest {
		return 0
	}
	for _, w := range ordered {
		if fitsAt(v, at, index, w) {
			return w
		}
	}
	return 0
}

// wantAll is P16.2, with the definition of the headers.
func wantAll(at, ahead int, keys api.Value, l []api.Value) int {
	if at < 0 || at > furthest || ahead != 0 && ahead != 1 && ahead != 3 || len(l) > most {
		return 0
	}
	for _, w := range ordered {
		suits := ahead == 0 || fitsNumber(uint64(len(l)), w)
		suits = suits && (ahead != 3 || fitsAt(keys, at, 0, w))
		for i, v := range l {
			suits = suits && fitsAt(v, at, ahead+i, w)
		}
		if suits {
			return w
		}
	}
	return 0
}

// inlineTypes and offsetTypes hold every type, as chapter 2 has them.
var (
	inlineTypes = []int{0, 1, 2, 26}
	offsetTypes = []int{4, 5, 6, 7, 9, 10, 11, 12, 14, 16, 17, 19, 20, 22, 23, 25, 36}
)

// noTypes holds numbers that are not types, some of which would be if they lost their upper bits or their sign.
var noTypes = []int{3, 8, 13, 15, 18, 21, 24, 27, 35, 37, 100, 255, 256, 282, 1 << 32, 1<<32 + 1, 1<<32 + 26, 1<<62 + 2, math.MaxInt, -1, -2, -26, math.MinInt, math.MinInt + 1}

// outside holds numbers that are no place, some of which would be if they lost their upper bits or their sign.
var outside = []int{-1, -2, -256, -furthest, math.MinInt, math.MinInt + 1, furthest + 1, furthest + 2, 2 * furthest, 1<<32 - 1, 1 << 32, 1<<32 + 1, 1 << 53, 1<<60 - 1, 1 << 61, 1 << 62, math.MaxInt - 1, math.MaxInt}

// places holds numbers from 0 to the limit, most of them around the greatest numbers of a width.
func places() []int {
	var l []int
	for d := range 20 {
		l = append(l, d, 245+d, 65525+d, 16777206+d, furthest-d)
	}
	return append(l, 100, 128, 1000, 32768, 100000, 1<<29)
}

// s is a string value with a byte offset.
func s(n int) api.Value {
	return api.Value{Type: api.TStr, Width: 1, N: uint64(n)}
}

// i is a KInt value with a width.
func i(n int64, w int) api.Value {
	return api.Value{Type: api.TInt, Width: w, N: uint64(n)}
}

// repeat holds a value n times.
func repeat(n int, v api.Value) []api.Value {
	l := make([]api.Value, n)
	for at := range l {
		l[at] = v
	}
	return l
}

func one(t *testing.T, want int, v api.Value, at, index int) {
	t.Helper()
	if w := fit.One(v, at, index); w != want {
		t.Errorf("One(%s, %d, %d) = %d; want %d", show(v), at, index, w, want)
	}
}

func all(t *testing.T, want, at, ahead int, keys api.Value, l ...api.Value) {
	t.Helper()
	if w := fit.All(at, ahead, keys, l...); w != want {
		t.Errorf("All(%d, %d, %s, %s) = %d; want %d", at, ahead, show(keys), show(l...), w, want)
	}
}

// show shortens a list of values for a message.
func show(l ...api.Value) string {
	var s []string
	for _, v := range l[:min(len(l), 8)] {
		s = append(s, strconv.Itoa(v.Type)+":"+strconv.Itoa(v.Width)+":"+strconv.FormatUint(v.N, 10))
	}
	if len(l) > 8 {
		s = append(s, ".. ("+strconv.Itoa(len(l))+" values)")
	}
	return strings.Join(s, " ")
}

// eachList calls use with all lists of up to n of the given values.
func eachList(n int, of []api.Value, use func(l []api.Value)) {
	var extend func(l []api.Value)
	extend = func(l []api.Value) {
		use(l)
		for _, v := range of {
			if len(l) < n {
				extend(append(l[:len(l):len(l)], v))
			}
		}
	}
	extend(nil)
}
