package width_test

import (
	"math"
	"math/big"
	"testing"

	"accordion/api"
	"accordion/width"
)

// The tables below repeat the chapter's definitions with its own numbers, apart from the program's computations.

// widths holds the code of every width.
var widths = map[int]int{1: 0, 2: 1, 4: 2, 8: 3}

// ordered holds the widths from the least to the greatest.
var ordered = []int{1, 2, 4, 8}

const limit = 9007199254740992 // 2^53

// fits and fitsInt are the definition of the Terms, computed with numbers that cannot overflow.
func fits(u uint64, w int) bool {
	end := new(big.Int).Lsh(big.NewInt(1), uint(8*w))
	return new(big.Int).SetUint64(u).Cmp(end) < 0
}

func fitsInt(n int64, w int) bool {
	end := new(big.Int).Lsh(big.NewInt(1), uint(8*w-1))
	start := new(big.Int).Neg(end)
	b := big.NewInt(n)
	return b.Cmp(start) >= 0 && b.Cmp(end) < 0
}

// edges holds the powers of two with their neighbours on both sides, and some numbers between them.
func edges() []uint64 {
	var l []uint64
	for shift := 0; shift < 64; shift++ {
		for d := -2; d <= 2; d++ {
			l = append(l, uint64(1)<<shift+uint64(d))
		}
	}
	return append(l, 0, 200, 40000, 100000, 3000000000, math.MaxUint64-1, math.MaxUint64)
}

// intEdges holds the same bits as signed numbers, and their negations.
func intEdges() []int64 {
	var l []int64
	for _, u := range edges() {
		l = append(l, int64(u), -int64(u))
	}
	return l
}

// numbers holds small numbers, and numbers that would pass for widths or codes if they lost their upper bits.
func numbers() []int {
	l := []int{math.MinInt, math.MinInt + 1, math.MaxInt - 1, math.MaxInt}
	for i := -300; i <= 300; i++ {
		l = append(l, i)
	}
	for _, shift := range []int{16, 31, 32, 53, 61, 62} {
		for i := -9; i <= 9; i++ {
			l = append(l, i+1<<shift, i-1<<shift)
		}
	}
	return l
}

// offsets holds small offsets and those around the limit and the greatest int.
func offsets() []int {
	l := []int{1000, 65535, 65536, 1<<31 - 1, 1 << 31, 1<<32 + 1, 1 << 62}
	for i := 0; i <= 70; i++ {
		l = append(l, i, limit-i, limit+i, math.MaxInt-i)
	}
	return l
}

func checkOf(t *testing.T, u uint64, want int) {
	t.Helper()
	if w := width.Of(u); w != want {
		t.Errorf("Of(%d) = %d; want %d", u, w, want)
	}
}

func checkOfInt(t *testing.T, n int64, want int) {
	t.Helper()
	if w := width.OfInt(n); w != want {
		t.Errorf("OfInt(%d) = %d; want %d", n, w, want)
	}
}

func checkCode(t *testing.T, w, want int, wantErr api.Errno) {
	t.Helper()
	if code, e := width.Code(w); code != want || e != wantErr {
		t.Errorf("Code(%d) = %d, %d; want %d, %d", w, code, e, want, wantErr)
	}
}

func checkBack(t *testing.T, code, want int, wantErr api.Errno) {
	t.Helper()
	if w, e := width.Back(code); w != want || e != wantErr {
		t.Errorf("Back(%d) = %d, %d; want %d, %d", code, w, e, want, wantErr)
	}
}

func checkMax(t *testing.T, want int, l ...int) {
	t.Helper()
	if n := width.Max(l...); n != want {
		t.Errorf("Max(%v...) = %d; want %d", l, n, want)
	}
}

func checkUp(t *testing.T, at, w, want int, wantErr api.Errno) {
	t.Helper()
	if p, e := width.Up(at, w); p != want || e != wantErr {
		t.Errorf("Up(%d, %d) = %d, %d; want %d, %d", at, w, p, e, want, wantErr)
	}
}

func TestExamples(t *testing.T) {
	checkOf(t, 0, 1)
	checkOf(t, 255, 1)
	checkOf(t, 256, 2)
	checkOf(t, 65536, 4)
	checkOf(t, 1<<32, 8)

	checkOfInt(t, 127, 1)
	checkOfInt(t, 128, 2)
	checkOfInt(t, -128, 1)
	checkOfInt(t, -129, 2)
	checkOfInt(t, -1<<31-1, 8)

	checkCode(t, 4, 2, api.OK)
	checkCode(t, 3, 0, api.ErrArg)
	checkBack(t, 3, 8, api.OK)
	checkBack(t, 4, 0, api.ErrArg)

	checkMax(t, 4, 1, 4, 2)
	checkMax(t, 1)
	checkMax(t, 1, -3)

	checkUp(t, 5, 4, 8, api.OK)
	checkUp(t, 8, 8, 8, api.OK)
	checkUp(t, 0, 2, 0, api.OK)
	checkUp(t, -1, 1, 0, api.ErrArg)
	checkUp(t, limit+1, 1, 0, api.ErrLimit)
}

// P3.1: on both sides of every border between two widths.
func TestOf(t *testing.T) {
	checkOf(t, 1, 1)
	checkOf(t, 128, 1)
	checkOf(t, 300, 2)
	checkOf(t, 32768, 2)
	checkOf(t, 65535, 2)
	checkOf(t, 16777216, 4)
	checkOf(t, 2147483648, 4)
	checkOf(t, 4294967295, 4)
	checkOf(t, 1<<53, 8)
	checkOf(t, 1<<63, 8)
	checkOf(t, 18446744073709551615, 8)
}

// P3.1: on both sides of every border between two widths, of both signs.
func TestOfInt(t *testing.T) {
	checkOfInt(t, 0, 1)
	checkOfInt(t, 1, 1)
	checkOfInt(t, -1, 1)
	checkOfInt(t, 255, 2)
	checkOfInt(t, -255, 2)
	checkOfInt(t, 32767, 2)
	checkOfInt(t, -32768, 2)
	checkOfInt(t, 32768, 4)
	checkOfInt(t, -32769, 4)
	checkOfInt(t, 2147483647, 4)
	checkOfInt(t, -2147483648, 4)
	checkOfInt(t, 2147483648, 8)
	checkOfInt(t, -2147483649, 8)
	checkOfInt(t, 9223372036854775807, 8)
	checkOfInt(t, -9223372036854775808, 8)
}

// P3.2: every width has its code, and every other number is refused.
func TestCode(t *testing.T) {
	for _, w := range numbers() {
		if code, is := widths[w]; is {
			checkCode(t, w, code, api.OK)
		} else {
			checkCode(t, w, 0, api.ErrArg)
		}
	}
}

// P3.2: every code has its width, and every other number is refused.
func TestBack(t *testing.T) {
	for _, code := range numbers() {
		if code >= 0 && code <= 3 {
			checkBack(t, code, ordered[code], api.OK)
		} else {
			checkBack(t, code, 0, api.ErrArg)
		}
	}
}

// P3.3: any integers are accepted, not only widths, and 1 is the least result.
func TestMax(t *testing.T) {
	checkMax(t, 1, 0)
	checkMax(t, 1, 1)
	checkMax(t, 2, 2)
	checkMax(t, 8, 8, 1)
	checkMax(t, 8, 1, 8)
	checkMax(t, 8, 4, 8, 8, 2)
	checkMax(t, 7, 7, 3, -9)
	checkMax(t, 100, 8, 100)
	checkMax(t, 1, -1, 0, math.MinInt)
	checkMax(t, 1, math.MinInt)
	checkMax(t, math.MaxInt, math.MinInt, math.MaxInt, 8)
	checkMax(t, 2, -5, 2, -7)
	checkMax(t, 1, []int{}...)
}

// P3.3 with R2: the arguments stay as they are.
func TestMaxKeepsArguments(t *testing.T) {
	l := []int{4, -1, 8, 2}
	checkMax(t, 8, l...)
	for i, n := range []int{4, -1, 8, 2} {
		if l[i] != n {
			t.Errorf("argument %d is now %d; want %d", i, l[i], n)
		}
	}
}

// P3.4: ordinary offsets.
func TestUp(t *testing.T) {
	for _, w := range ordered {
		checkUp(t, 0, w, 0, api.OK)
		checkUp(t, 1, w, w, api.OK)
		checkUp(t, w, w, w, api.OK)
		checkUp(t, w+1, w, map[int]int{1: 2, 2: 4, 4: 8, 8: 16}[w], api.OK)
		checkUp(t, 1<<31-1, w, map[int]int{1: 1<<31 - 1, 2: 1 << 31, 4: 1 << 31, 8: 1 << 31}[w], api.OK)
	}
	checkUp(t, 17, 2, 18, api.OK)
	checkUp(t, 17, 4, 20, api.OK)
	checkUp(t, 17, 8, 24, api.OK)
}

// P3.4: the result is the first multiple that a search from the offset upwards finds, or ErrLimit if it is beyond the limit.
func TestUpIsLeast(t *testing.T) {
	for _, at := range offsets() {
		for _, w := range ordered {
			want := uint64(at)
			for want%uint64(w) != 0 {
				want++
			}
			if want > limit {
				checkUp(t, at, w, 0, api.ErrLimit)
			} else {
				checkUp(t, at, w, int(want), api.OK)
			}
		}
	}
}

// P3.4: the limit itself is still a result; one more is not, whatever the width.
func TestUpLimit(t *testing.T) {
	for _, w := range ordered {
		checkUp(t, limit, w, limit, api.OK)
		checkUp(t, limit+1, w, 0, api.ErrLimit)
		checkUp(t, math.MaxInt, w, 0, api.ErrLimit)
	}
	checkUp(t, limit-1, 1, limit-1, api.OK)
	checkUp(t, limit-1, 8, limit, api.OK)
	checkUp(t, limit-7, 8, limit, api.OK)
	checkUp(t, limit-8, 8, limit-8, api.OK)
}

// P3.4 with R3: ErrArg comes before ErrLimit.
func TestUpRefuses(t *testing.T) {
	for _, w := range numbers() {
		if _, is := widths[w]; is {
			continue
		}
		for _, at := range []int{math.MinInt, -1, 0, 8, limit, limit + 1, math.MaxInt} {
			checkUp(t, at, w, 0, api.ErrArg)
		}
	}
	for _, w := range ordered {
		for _, at := range []int{-1, -2, -7, -8, -limit, math.MinInt, math.MinInt + 1} {
			checkUp(t, at, w, 0, api.ErrArg)
		}
	}
}

// P3.5
func TestMinimal(t *testing.T) {
	for _, u := range edges() {
		w := width.Of(u)
		if _, is := widths[w]; !is || !fits(u, w) {
			t.Errorf("Of(%d) = %d, which it does not fit", u, w)
		}
		for _, smaller := range ordered {
			if smaller < w && fits(u, smaller) {
				t.Errorf("Of(%d) = %d, but it fits %d", u, w, smaller)
			}
		}
	}
	for _, n := range intEdges() {
		w := width.OfInt(n)
		if _, is := widths[w]; !is || !fitsInt(n, w) {
			t.Errorf("OfInt(%d) = %d, which it does not fit", n, w)
		}
		for _, smaller := range ordered {
			if smaller < w && fitsInt(n, smaller) {
				t.Errorf("OfInt(%d) = %d, but it fits %d", n, w, smaller)
			}
		}
	}
}

// P3.6
func TestUpMultiple(t *testing.T) {
	for _, at := range offsets() {
		for _, w := range ordered {
			p, e := width.Up(at, w)
			if e != api.OK {
				continue
			}
			if p-at < 0 || p-at >= w {
				t.Errorf("Up(%d, %d) = %d, which is not within a width of the offset", at, w, p)
			}
			for _, smaller := range ordered {
				if smaller <= w && p%smaller != 0 {
					t.Errorf("Up(%d, %d) = %d, which is not a multiple of %d", at, w, p, smaller)
				}
			}
		}
	}
}

// P3.7: all orders of four arguments give the same result.
func TestMaxOrder(t *testing.T) {
	for _, l := range [][]int{{1, 2, 4, 8}, {0, -1, -8, 1}, {2, 2, 1, 4}, {math.MinInt, math.MaxInt, 0, 8}} {
		want := width.Max(l...)
		permute(l, 0, func(order []int) { checkMax(t, want, order...) })
	}
}

// permute calls use with every order of the elements from the index from on.
func permute(l []int, from int, use func([]int)) {
	if from == len(l) {
		use(append([]int(nil), l...))
		return
	}
	for i := from; i < len(l); i++ {
		l[from], l[i] = l[i], l[from]
		permute(l, from+1, use)
		l[from], l[i] = l[i], l[from]
	}
}

// P3.7
func TestMonotonic(t *testing.T) {
	for _, a := range edges() {
		for _, b := range edges() {
			if a <= b && width.Of(a) > width.Of(b) {
				t.Errorf("Of(%d) is greater than Of(%d)", a, b)
			}
		}
	}
	for _, a := range intEdges() {
		for _, b := range intEdges() {
			if 0 <= a && a <= b && width.OfInt(a) > width.OfInt(b) {
				t.Errorf("OfInt(%d) is greater than OfInt(%d)", a, b)
			}
		}
	}
}
