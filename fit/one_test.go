package fit_test

import (
	"math"
	"slices"
	"testing"

	"accordion/api"
)

// The table of the chapter's section 'Examples'.
func TestExamples(t *testing.T) {
	null := api.Value{Type: api.TNull, Width: 1}
	none := api.Value{}

	one(t, 2, i(300, 2), 9, 3)
	one(t, 1, s(5), 10, 0)
	one(t, 1, s(10), 10, 0)
	one(t, 0, s(11), 10, 0)

	one(t, 1, s(0), 250, 5)
	one(t, 2, s(0), 250, 6)
	one(t, 4, s(0), 65534, 1)
	one(t, 2, s(0), 65534, 0)

	all(t, 1, 0, 1, none)
	all(t, 1, 0, 1, none, repeat(255, null)...)
	all(t, 2, 0, 1, none, repeat(256, null)...)

	all(t, 1, 250, 3, s(0), null)
	all(t, 2, 250, 3, s(0), s(0), s(0), s(0), s(0))

	all(t, 0, 10, 2, none)
	all(t, 0, -1, 0, none)
}

// P16.1: an inline value fits by its Width alone, which may be any number.
func TestOneInline(t *testing.T) {
	least := map[int]int{
		math.MinInt: 1, -1 << 32: 1, -9: 1, -1: 1, 0: 1, 1: 1, 2: 2, 3: 4, 4: 4, 5: 8, 6: 8, 7: 8, 8: 8,
		9: 0, 10: 0, 16: 0, 255: 0, 256: 0, 257: 0, 1 << 32: 0, 1<<32 + 1: 0, 1<<62 + 2: 0, math.MaxInt: 0,
	}
	for _, x := range inlineTypes {
		for w, want := range least {
			for _, n := range []uint64{0, 1, 10, 11, 256, 1 << 40, 1 << 63, math.MaxUint64} {
				one(t, want, api.Value{Type: x, Width: w, N: n}, 10, 0)
				one(t, want, api.Value{Type: x, Width: w, N: n}, 0, 7)
				one(t, want, api.Value{Type: x, Width: w, N: n}, furthest, furthest)
			}
		}
	}
}

// P16.1: every other value fits by its N alone; so does one whose Type is not a type.
func TestOneTypes(t *testing.T) {
	for _, x := range slices.Concat(offsetTypes, noTypes) {
		for _, w := range []int{math.MinInt, -1, 0, 1, 2, 3, 4, 8, 9, math.MaxInt} {
			one(t, 1, api.Value{Type: x, Width: w, N: 10}, 10, 0)
			one(t, 0, api.Value{Type: x, Width: w, N: 11}, 10, 0)
			one(t, 1, api.Value{Type: x, Width: w, N: 0}, 255, 0)
			one(t, 2, api.Value{Type: x, Width: w, N: 0}, 256, 0)
			one(t, 4, api.Value{Type: x, Width: w, N: 0}, 65536, 0)
		}
	}
}

// P16.1: the greatest offset of each width and the next one, reached through the bytes written and through the index.
func TestOneBorders(t *testing.T) {
	one(t, 1, s(0), 0, 0)
	one(t, 1, s(0), 255, 0)
	one(t, 2, s(0), 256, 0)
	one(t, 2, s(0), 65534, 0)
	one(t, 4, s(0), 65536, 0)
	one(t, 4, s(0), furthest, 0)

	one(t, 1, s(0), 0, 255)
	one(t, 2, s(0), 0, 256)
	one(t, 2, s(0), 0, 32767)
	one(t, 4, s(0), 0, 32768)
	one(t, 4, s(0), 0, furthest-1)
	one(t, 8, s(0), 0, furthest)

	one(t, 4, s(furthest), furthest, furthest-1)
	one(t, 8, s(furthest), furthest, furthest)
	one(t, 4, s(0), furthest, 805306367)
	one(t, 8, s(0), furthest, 805306368)
}

// P16.1: a vector starts at a multiple of the width that is tried, so the bytes 00 before it count.
func TestOneAlignment(t *testing.T) {
	one(t, 2, s(0), 65533, 0)
	one(t, 4, s(0), 65535, 0)
	one(t, 4, s(1), 65536, 1)
	one(t, 2, s(1), 65535, 0)
	one(t, 4, s(0), 65533, 1)
	one(t, 2, s(3), 65533, 1)
	one(t, 2, s(1), 65533, 1)
	one(t, 1, s(3), 258, 0)
	one(t, 2, s(3), 259, 0)
	for at := furthest - 9; at < furthest; at++ {
		start := (at + 3) / 4 * 4
		index := (4294967295 - start) / 4
		one(t, 4, s(0), at, index)
		one(t, 8, s(0), at, index+1)
	}
}

// P16.1: an N up to the bytes written fits, and no greater one, even if an element behind starts further on.
func TestOneBehind(t *testing.T) {
	for _, at := range places() {
		for _, index := range []int{0, 1, 7, 8, 300, 70000, furthest} {
			for d := range 9 {
				one(t, 0, s(at+1+d), at, index)
			}
			for _, n := range []uint64{1 << 31, 1 << 32, 1<<32 + 1, 1 << 33, 1 << 40, 1 << 53, 1 << 63, 1<<63 + 1, math.MaxUint64 - 255, math.MaxUint64 - 1, math.MaxUint64} {
				one(t, 0, api.Value{Type: api.TStr, Width: 1, N: n}, at, index)
			}
			for _, n := range []uint64{1 << 32, 1 << 33, 1 << 63} {
				one(t, 0, api.Value{Type: api.TStr, Width: 1, N: n + uint64(at)}, at, index)
			}
		}
	}
}

// P16.1: with a place outside the range nothing fits, neither inline nor by offset.
func TestOneOutside(t *testing.T) {
	values := []api.Value{{}, i(0, 1), i(5, 8), s(0), s(1), {Type: api.TVec, Width: 4, N: 1 << 63}}
	for _, v := range values {
		for _, n := range outside {
			for _, place := range []int{0, 1, 10, 300, furthest} {
				one(t, 0, v, n, place)
				one(t, 0, v, place, n)
			}
			for _, other := range outside {
				one(t, 0, v, n, other)
			}
		}
	}
	one(t, 1, i(0, 1), 0, 0)
	one(t, 1, i(0, 1), furthest, 0)
	one(t, 1, i(0, 1), 0, furthest)
	one(t, 1, i(0, 1), furthest, furthest)
}

// near holds byte offsets from 0 to the bytes written: the least ones, the greatest ones, and those with which the offset of an element is on either side of a border.
func near(at, index int) []int {
	var l []int
	for d := range 3 {
		l = append(l, d, at-d, at/2-d)
		for _, w := range ordered {
			for _, end := range []int{1 << 8, 1 << 16, 1 << 32} {
				l = append(l, int(positionAt(at, index, w))-end+d-1)
			}
		}
	}
	return slices.DeleteFunc(l, func(n int) bool { return n < 0 || n > at })
}

// P16.1: One is as the model, for many bytes written, indices and byte offsets on both sides of every border.
func TestOneModel(t *testing.T) {
	for _, at := range places() {
		for _, index := range places() {
			for _, n := range near(at, index) {
				one(t, wantOne(s(n), at, index), s(n), at, index)
			}
		}
	}
}
