package fit_test

import (
	"math"
	"testing"

	"accordion/api"
	"accordion/fit"
)

// widthOf is the least width at which a length fits.
func widthOf(length int) int {
	for _, w := range ordered {
		if fitsNumber(uint64(length), w) {
			return w
		}
	}
	return 0
}

// greatest is the maximum of some widths, or 0 if one of them is 0, which says that there is none.
func greatest(l ...int) int {
	for _, w := range l {
		if w == 0 {
			return 0
		}
	}
	m := 1
	for _, w := range l {
		m = max(m, w)
	}
	return m
}

// P16.3: next to a value that forces a greater width, a value still fits.
func TestGreaterWidths(t *testing.T) {
	for _, at := range places() {
		for _, ahead := range []int{0, 1, 3} {
			for _, n := range append(near(at, ahead), at+1) {
				v := s(n)
				for _, w := range ordered {
					all(t, greatest(fit.One(v, at, ahead), w), at, ahead, s(at), v, i(5, w))
				}
			}
		}
	}
}

// P16.3: All is the maximum of the width of the length, One of the keys, and One of each value.
func TestMaximum(t *testing.T) {
	for _, at := range []int{0, 8, 250, 252, 256, 65530, 65537, furthest} {
		eachList(3, samples, func(l []api.Value) {
			for _, ahead := range []int{0, 1, 3} {
				var parts []int
				if ahead > 0 {
					parts = append(parts, widthOf(len(l)))
				}
				if ahead == 3 {
					parts = append(parts, fit.One(s(0), at, 0))
				}
				for index, v := range l {
					parts = append(parts, fit.One(v, at, ahead+index))
				}
				all(t, greatest(parts...), at, ahead, s(0), l...)
			}
		})
	}
}

// P16.3: the same for long lists, whose last elements are far from the first ones.
func TestMaximumOfMany(t *testing.T) {
	for _, at := range []int{0, 1, 200, 65000} {
		for _, many := range []int{254, 255, 256, 257, 32766, 32767, 32768, 32769, 65535, 65536} {
			for _, n := range []int{0, at} {
				l := repeat(many, s(n))
				last := fit.One(s(n), at, many-1)
				all(t, last, at, 0, never, l...)
				last = fit.One(s(n), at, many)
				all(t, greatest(widthOf(many), last), at, 1, never, l...)
				last = fit.One(s(n), at, many+2)
				all(t, greatest(widthOf(many), fit.One(s(n), at, 0), last), at, 3, s(n), l...)
			}
		}
	}
}

// wider reports whether a width is greater than another one; 0, which says that there is none, is the greatest.
func wider(w, than int) bool {
	return than != 0 && (w == 0 || w > than)
}

// P16.4: for all prefixes of lists of samples, and for lists that grow past the borders of the length and of the offsets.
func TestPrefixes(t *testing.T) {
	for _, ahead := range []int{0, 1, 3} {
		for _, at := range []int{0, 8, 250, 256, 65530, furthest} {
			eachList(3, samples, func(l []api.Value) {
				whole := fit.All(at, ahead, s(0), l...)
				for n := range l {
					if wider(fit.All(at, ahead, s(0), l[:n]...), whole) {
						t.Errorf("All(%d, %d, .., %s) needs more with %d values", at, ahead, show(l...), n)
					}
				}
			})
		}
		for _, v := range []api.Value{null, s(0)} {
			l, before := repeat(700, v), 1
			for n := range l {
				w := fit.All(0, ahead, s(0), l[:n]...)
				if wider(before, w) {
					t.Errorf("All(0, %d, .., %s) is %d for %d values, and %d for one less", ahead, show(v), w, n, before)
				}
				before = w
			}
		}
	}
}

// P16.5: of the values that fit, none with a greater N needs a greater width.
func TestGreaterN(t *testing.T) {
	for _, at := range places() {
		for _, index := range []int{0, 1, 5, 255, 300, 32767, 65536, furthest - 1, furthest} {
			for _, n := range near(at, index) {
				w := fit.One(s(n), at, index)
				for _, greater := range near(at, index) {
					if greater > n && wider(fit.One(s(greater), at, index), w) {
						t.Errorf("One(s %d, %d, %d) is greater than that of s %d", greater, at, index, n)
					}
				}
			}
		}
	}
}

// P16.5: an element with a lesser index does not need a greater width, and an inline value needs the same for every N and index.
func TestLesserIndex(t *testing.T) {
	for _, at := range places() {
		for _, n := range []int{0, at / 2, at} {
			for _, index := range places() {
				w := fit.One(s(n), at, index)
				for _, lesser := range places() {
					if lesser < index && wider(fit.One(s(n), at, lesser), w) {
						t.Errorf("One(s %d, %d, %d) is greater than with the index %d", n, at, lesser, index)
					}
				}
			}
		}
		for _, index := range places() {
			one(t, 4, i(math.MinInt64, 4), at, index)
			one(t, 4, i(int64(index), 4), at, index)
		}
	}
}
