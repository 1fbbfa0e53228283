package fit_test

import (
	"math"
	"slices"
	"testing"

	"accordion/api"
	"accordion/fit"
)

var null = api.Value{Type: api.TNull, Width: 1}

// never fits no element, whatever the width.
var never = s(furthest + 1)

// noHeaders holds numbers that select no header, some of which would if they lost their upper bits or their sign.
var noHeaders = []int{2, 4, 5, 6, 7, 8, 255, 256, 257, 1 << 32, 1<<32 + 1, 1<<32 + 3, 1<<62 + 3, math.MaxInt, -1, -2, -3, math.MinInt, math.MinInt + 1, math.MinInt + 3}

// P16.2: the length is stored with the headers 1 and 3, and not without a header.
func TestLength(t *testing.T) {
	least := map[int]int{0: 1, 1: 1, 2: 1, 254: 1, 255: 1, 256: 2, 257: 2, 65534: 2, 65535: 2, 65536: 4, 65537: 4, most - 1: 4, most: 4}
	for n, want := range least {
		l := repeat(n, null)
		all(t, 1, 0, 0, never, l...)
		all(t, want, 0, 1, never, l...)
		all(t, want, 0, 3, s(0), l...)
	}
}

// P16.2: no width for more than 2^20 values, even without a header.
func TestTooMany(t *testing.T) {
	for _, n := range []int{most + 1, most + 2} {
		for _, ahead := range []int{0, 1, 3} {
			all(t, 0, 0, ahead, s(0), repeat(n, null)...)
		}
	}
}

// P16.2: as many values as there may be, of which the last one is the greatest.
func TestLastOfMany(t *testing.T) {
	for _, ahead := range []int{0, 1, 3} {
		l := repeat(most, null)
		l[most-1] = s(0)
		all(t, 4, 0, ahead, s(0), l...)
		l[most-1] = i(5, 8)
		all(t, 8, 0, ahead, s(0), l...)
		l[most-1] = never
		all(t, 0, 0, ahead, s(0), l...)
	}
}

// P16.2: no width with a number that selects no header, nor with a place outside the range.
func TestAllOutside(t *testing.T) {
	for _, l := range [][]api.Value{nil, {}, {null}, {s(0), i(5, 2)}} {
		for _, ahead := range noHeaders {
			for _, at := range []int{0, 1, 10, 300, furthest, -1, furthest + 1} {
				all(t, 0, at, ahead, s(0), l...)
			}
		}
		for _, at := range outside {
			for _, ahead := range []int{0, 1, 3} {
				all(t, 0, at, ahead, s(0), l...)
				all(t, 0, at, ahead, null, l...)
			}
		}
	}
	for _, ahead := range []int{0, 1, 3} {
		all(t, 1, 0, ahead, s(0))
		all(t, 1, furthest, ahead, s(furthest))
		all(t, 4, furthest, 3, s(0))
	}
}

// P16.2: the keys count with the header 3 only, as a value of the element 0.
func TestKeys(t *testing.T) {
	for _, keys := range []api.Value{never, s(11), i(0, 9), i(0, 8), {Type: api.TVec, Width: 1, N: math.MaxUint64}} {
		all(t, 1, 10, 0, keys, null, s(5))
		all(t, 1, 10, 1, keys, null, s(5))
		all(t, 1, 10, 1, keys)
		all(t, wantOne(keys, 10, 0), 10, 3, keys)
		all(t, wantOne(keys, 10, 0), 10, 3, keys, null, s(5))
	}
	all(t, 1, 255, 3, s(0))
	all(t, 2, 256, 3, s(0))
	all(t, 1, 256, 3, s(1))
	all(t, 2, 65534, 3, s(0))
	all(t, 4, 65535, 3, s(0))
	all(t, 4, 10, 3, i(0, 3))
	all(t, 8, 10, 3, i(0, 8), null)
	for _, at := range places() {
		for _, n := range near(at, 0) {
			all(t, wantOne(s(n), at, 0), at, 3, s(n))
			all(t, 1, at, 1, s(n))
		}
		all(t, 0, at, 3, s(at+1), null)
	}
}

// P16.2: the values are behind the header, which itself takes as many elements as its number says.
func TestFirstIndex(t *testing.T) {
	for _, ahead := range []int{0, 1, 3} {
		for n := range 9 {
			for at := 240; at < 260; at++ {
				want := 2
				if n == 0 && (at < 256 || ahead != 3) || n > 0 && at+ahead+n-1 < 256 {
					want = 1
				}
				all(t, want, at, ahead, s(0), repeat(n, s(0))...)
			}
		}
	}
	all(t, 2, 65532, 0, s(0), s(0), s(0))
	all(t, 4, 65532, 1, s(0), s(0), s(0))
	all(t, 2, 65530, 1, s(0), s(0), s(0))
	all(t, 2, 65528, 3, s(0), s(0))
	all(t, 4, 65528, 3, s(0), s(0), s(0))
}

// P16.2: the value that needs the greatest width may be anywhere, and so may one that fits no width.
func TestEveryPlace(t *testing.T) {
	for n := 1; n < 12; n++ {
		for place := range n {
			for _, ahead := range []int{0, 1, 3} {
				l := repeat(n, null)
				for _, w := range []int{1, 2, 4, 8} {
					l[place] = i(5, w)
					all(t, w, 100, ahead, s(100), l...)
				}
				for _, v := range []api.Value{never, s(101), i(5, 9)} {
					l[place] = v
					all(t, 0, 100, ahead, s(100), l...)
				}
			}
		}
	}
}

// samples holds values that need each width, for some bytes written, and such that fit none.
var samples = []api.Value{null, i(300, 2), i(-70000, 3), {Type: api.TBool, Width: 8}, s(0), s(7), {Type: api.TVec, Width: 8, N: 250}, {Type: 3, N: 65530}, never, i(0, 9)}

// P16.2: All is as the model, for all lists of up to three samples.
func TestAllModel(t *testing.T) {
	ats := []int{0, 7, 8, 249, 250, 252, 253, 255, 256, 257, 262, 65530, 65533, 65535, 65537, 65788, furthest - 1, furthest}
	eachList(3, samples, func(l []api.Value) {
		for _, at := range ats {
			all(t, wantAll(at, 0, never, l), at, 0, never, l...)
			all(t, wantAll(at, 1, never, l), at, 1, never, l...)
			for _, keys := range samples {
				all(t, wantAll(at, 3, keys, l), at, 3, keys, l...)
			}
		}
	})
}

// P16.2: All is as the model for lists of offsets around the borders, where padding and index play together.
func TestAllModelOffsets(t *testing.T) {
	for _, at := range places() {
		for _, ahead := range []int{0, 1, 3} {
			for n := range 12 {
				for _, v := range near(at, ahead+n) {
					l := append(repeat(n, null), s(v))
					all(t, wantAll(at, ahead, s(at), l), at, ahead, s(at), l...)
					l = repeat(n+1, s(v))
					all(t, wantAll(at, ahead, s(v), l), at, ahead, s(v), l...)
				}
			}
		}
	}
}

// R2: the values stay as they are, those in the unused capacity included, and a result does not depend on earlier calls.
func TestArgumentsStay(t *testing.T) {
	for n := range len(samples) + 1 {
		l := slices.Clone(samples)
		for range 3 {
			for _, ahead := range []int{0, 1, 3, 2} {
				all(t, wantAll(100, ahead, s(5), l[:n]), 100, ahead, s(5), l[:n]...)
				fit.One(never, 0, 0)
				if !slices.Equal(l, samples) {
					t.Fatalf("the values have changed: %s", show(l...))
				}
			}
		}
	}
}
