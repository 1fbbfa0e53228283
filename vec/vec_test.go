package vec_test

import (
	"math"
	"slices"
	"testing"

	"accordion/api"
	"accordion/buf"
	"accordion/vec"
)

// untyped is the form of an untyped vector.
var untyped = shape{-1, 0}

// example makes a call on a buffer and compares what it appends and returns.
func example(t *testing.T, b *buf.Buf, added string, want api.Value, wantE api.Errno, elem, many int, l ...api.Value) {
	t.Helper()
	before, _ := b.Bytes()
	v, e := vec.Put(b, elem, many, l...)
	got, gotE := b.Bytes()
	if v != want || e != wantE || string(got) != string(before)+added || gotE != api.OK {
		t.Errorf("Put(%d, %d, %s) = %v, %d, and appends %s; want %v, %d", elem, many, show(l...), v, e, digits(got, len(before)), want, wantE)
	}
}

// The table of the chapter's section 'Examples'.
func TestExamples(t *testing.T) {
	start := func() *buf.Buf { return holding("abc\x00", 100) }
	none := api.Value{}
	example(t, start(), "\x02\x05\x06\x04\x14", api.Value{Type: 10, Width: 1, N: 5}, api.OK, vec.Untyped, 0, i(5, 1), s(0))
	example(t, holding("abc", 100), "\x00\x02\x00\x01\x00\x2c\x01", api.Value{Type: 11, Width: 2, N: 6}, api.OK, api.TInt, 0, i(1, 1), i(300, 2))
	b := start()
	example(t, b, "\x01\x02\x03", api.Value{Type: 20, Width: 1, N: 4}, api.OK, api.TUint, 3, u(1, 1), u(2, 1), u(3, 1))
	example(t, b, "", none, api.ErrArg, api.TUint, 2, u(1, 1), u(2, 1), u(3, 1))
	example(t, start(), "", none, api.ErrArg, api.TUint, 2, u(1, 1), u(2, 1), u(3, 1))
	example(t, start(), "", none, api.ErrType, api.TStr, 0, s(0))
	example(t, start(), "", none, api.ErrKind, api.TInt, 0, s(0))
	example(t, start(), "", none, api.ErrOffset, vec.Untyped, 0, s(5))
	example(t, start(), "", none, api.ErrType, vec.Untyped, 2)
	if vec.Untyped != -1 {
		t.Errorf("Untyped is %d", vec.Untyped)
	}
}

// P17.1: every form, with as many values of its element type as it takes, at many lengths of the buffer.
func TestForms(t *testing.T) {
	for _, x := range shapes {
		for at := range 20 {
			for _, w := range ordered {
				for n := range 6 {
					v := api.Value{Type: max(x.elem, 1), Width: w, N: uint64(at / 2)}
					put(t, filler(at), 1000, x, repeat(n, v)...)
				}
			}
		}
	}
}

// P17.1: ErrType for every other pair of numbers, whatever the values are.
func TestNoForms(t *testing.T) {
	elems := append(slices.Concat(inlineTypes, offsetTypes, noTypes), -1, -2)
	manys := []int{0, 1, 2, 3, 4, 5, 6, 8, 16, 255, 256, 258, 1 << 32, 1<<32 + 2, 1<<62 + 3, math.MaxInt, -1, -2, -3, -4, math.MinInt, math.MinInt + 2}
	lists := [][]api.Value{{}, {s(0), s(0)}, {i(1, 1), i(2, 1)}, {i(1, 1), i(2, 1), i(3, 1)}, {{Type: 3}}, {s(9)}, {{Type: 5, Width: 3}}}
	for _, elem := range elems {
		for _, many := range manys {
			for _, l := range lists {
				put(t, "abc", 100, shape{elem, many}, l...)
			}
		}
	}
}

// P17.1: a fixed vector has exactly as many elements as its form says, which is checked before the values.
func TestFixedNumber(t *testing.T) {
	for _, x := range shapes {
		for n := range 10 {
			for _, v := range []api.Value{{Type: x.elem, Width: 1}, {Type: 3}, s(0), s(9), {Type: 5, Width: 3}, {Type: x.elem, Width: 9}} {
				put(t, "abc", 100, x, repeat(n, v)...)
			}
		}
		if x.many > 0 {
			put(t, "abc", 100, x)
			put(t, "abc", 1<<20, x, repeat(256+x.many, api.Value{Type: x.elem, Width: 1})...)
			put(t, "abc", 1<<20, x, repeat(65536+x.many, api.Value{Type: x.elem, Width: 1})...)
		}
	}
}

// P17.1: every type as an element of every form, with every Width that could matter.
func TestTypes(t *testing.T) {
	for _, x := range shapes {
		for _, kind := range slices.Concat(inlineTypes, offsetTypes, noTypes) {
			for _, w := range slices.Concat(ordered, noWidths) {
				for _, n := range []uint64{0, 1, 2, 3, 4, 255, 256, 1 << 40, math.MaxUint64} {
					put(t, "abc", 100, x, repeat(max(x.many, 1), api.Value{Type: kind, Width: w, N: n})...)
				}
			}
		}
	}
}

// faulty holds values of every form and such with each of the errors; some have several of them.
var faulty = []api.Value{i(5, 1), {Type: api.TInt, Width: 9}, u(5, 2), k(0), k(9), s(0), {Type: 3}, {Type: -1, Width: 3, N: 99}, {Type: api.TStr, Width: 3}, {Type: api.TKey, Width: 0, N: 9}}

// P17.1: the errors of the values in their order, the first value first, and ErrOffset behind all of them.
func TestOrderOfErrors(t *testing.T) {
	for _, x := range shapes {
		eachList(4, faulty, func(l []api.Value) {
			put(t, "abc", 100, x, l...)
		})
	}
}

// P17.1: an error of the buffer comes first, whatever the arguments are, and the buffer stays as it is.
func TestBufferErrors(t *testing.T) {
	broken := map[api.Errno]func() *buf.Buf{
		errNil:   func() *buf.Buf { return nil },
		errArg:   func() *buf.Buf { b := holding("abc", 100); b.Align(3); return b },
		errLimit: func() *buf.Buf { b := holding("abc", 100); b.Text(filler(98)); return b },
		errRange: func() *buf.Buf { b := holding("abc", 100); b.Cut(4); return b },
		errFit:   func() *buf.Buf { b := holding("abc", 100); b.Num(1, 256); return b },
	}
	calls := append(slices.Clone(shapes), shape{5, 0}, shape{-1, 2}, shape{1, 7}, shape{-2, -2})
	for want, start := range broken {
		for _, x := range calls {
			eachList(2, faulty, func(l []api.Value) {
				b := start()
				n := b.Len()
				for range 2 {
					v, e := vec.Put(b, x.elem, x.many, l...)
					if v != (api.Value{}) || e != want || b.Err() != want || b.Len() != n {
						t.Fatalf("Put(%d, %d, %s) = %v, %d, and leaves Err %d, Len %d; want %d", x.elem, x.many, show(l...), v, e, b.Err(), b.Len(), want)
					}
				}
			})
		}
	}
	if v, e := vec.Put(&buf.Buf{}, vec.Untyped, 0, i(5, 1)); v != (api.Value{}) || e != errNil {
		t.Errorf("with a zero buffer, Put = %v, %d", v, e)
	}
	if v, e := vec.Put(new(buf.Buf), api.TStr, 7, s(5)); v != (api.Value{}) || e != errNil {
		t.Errorf("with a zero buffer, Put without a form = %v, %d", v, e)
	}
}

// P17.1: of an inline value the least significant bytes are stored, whatever its Width promises.
func TestInline(t *testing.T) {
	numbers := []uint64{0, 1, 127, 128, 255, 256, 300, 0xfff1, 0x10000, 0x12345678, 1 << 31, 1 << 32, 0x0102030405060708, 1 << 63, math.MaxUint64 - 299, math.MaxUint64}
	for _, kind := range inlineTypes {
		for _, w := range slices.Concat(ordered, noWidths) {
			for _, n := range numbers {
				v := api.Value{Type: kind, Width: w, N: n}
				put(t, "abc", 100, untyped, v)
				put(t, "abcde", 100, untyped, v, i(-2, 2), v)
				put(t, "abc", 100, shape{kind, 0}, v, v, v)
				for many := 2; many < 5; many++ {
					put(t, "a", 100, shape{kind, many}, repeat(many, v)...)
				}
			}
		}
	}
}

// P17.1: the offset of an element reaches any byte offset up to the length of the buffer, and none behind it.
func TestOffsets(t *testing.T) {
	for _, at := range []int{0, 1, 2, 3, 8, 245, 250, 251, 252, 253, 254, 255, 256, 257, 300, 65530, 65531, 65532, 65533, 65534, 65535, 65536, 70001} {
		for n := range 5 {
			for _, to := range []int{0, 1, 2, 3, 4, 5, 6, 7, at - 255, at - 254, at - 251, at - 65533, at / 2, at - 1, at, at + 1, at + 2, at + 9} {
				if to < 0 {
					continue
				}
				put(t, filler(at), mostBytes, shape{4, 0}, repeat(n, k(to))...)
				put(t, filler(at), mostBytes, untyped, repeat(n, s(to))...)
				put(t, filler(at), mostBytes, untyped, append(repeat(n, i(5, 1)), s(to))...)
			}
		}
	}
	for _, n := range []uint64{1 << 31, 1 << 32, 1<<32 + 1, 1 << 63, math.MaxUint64 - 1, math.MaxUint64} {
		put(t, "abc", 100, untyped, api.Value{Type: api.TVec, Width: 1, N: n})
		put(t, "abc", 100, shape{4, 0}, k(0), api.Value{Type: api.TKey, Width: 1, N: n})
	}
}

// P17.1: the Width of a value that is not inline is in its tag and nowhere else.
func TestOwnWidths(t *testing.T) {
	for _, kind := range offsetTypes {
		for _, own := range ordered {
			for _, w := range ordered {
				_, v := put(t, "abc", 100, untyped, api.Value{Type: kind, Width: own, N: 1}, i(5, w))
				if v.Width != w {
					t.Errorf("the width of %d:%d and a number of the width %d is %d", kind, own, w, v.Width)
				}
			}
		}
	}
}

// P17.1: the length is one of the numbers that must fit, and a fixed vector has none.
func TestLengths(t *testing.T) {
	least := map[int]int{0: 1, 1: 1, 254: 1, 255: 1, 256: 2, 257: 2, 65534: 2, 65535: 2, 65536: 4, 65537: 4}
	for n, want := range least {
		for _, x := range []shape{{1, 0}, {2, 0}, {26, 0}, {-1, 0}} {
			_, v := put(t, "abc", mostBytes, x, repeat(n, api.Value{Type: max(x.elem, 1), Width: 1, N: 7})...)
			if v.Width != want {
				t.Errorf("the width of %d values is %d; want %d", n, v.Width, want)
			}
		}
		put(t, filler(100000), mostBytes, shape{4, 0}, repeat(n, k(99999))...)
	}
}

// P17.1: with more values than fit.All takes there is no width; with as many as it takes, the buffer is too small.
func TestManyValues(t *testing.T) {
	for _, kind := range []int{0, 1, 26} {
		v := api.Value{Type: kind, Width: 1}
		put(t, "abc", mostBytes, untyped, repeat(mostValues+1, v)...)
		put(t, "abc", mostBytes, untyped, repeat(mostValues, v)...)
	}
	put(t, "", mostBytes, shape{1, 0}, repeat(mostValues+1, i(1, 1))...)
	put(t, "", mostBytes, shape{1, 0}, repeat(mostValues, i(1, 1))...)
	put(t, "", mostBytes, shape{1, 0}, append(repeat(mostValues+1, i(1, 1)), u(1, 1))...)
	put(t, "", mostBytes, shape{1, 2}, repeat(mostValues+1, i(1, 1))...)
}

// P17.1: a vector fits a capacity exactly or is an error of the buffer, wherever its encoding would be cut off; the errors of the arguments come before that.
func TestCapacity(t *testing.T) {
	lists := [][]api.Value{{}, {i(5, 1)}, {s(0), i(300, 2)}, {i(1, 1), i(-70000, 4)}, {i(1, 8), i(2, 8)}, {k(0), k(1)}, {u(1, 1), u(2, 1)}, {u(1, 2), u(2, 4), u(3, 1)}, {s(9)}, {i(0, 9)}}
	for _, x := range shapes {
		for _, l := range lists {
			for at := range 12 {
				for capacity := at; capacity < at+45; capacity++ {
					put(t, filler(at), capacity, x, l...)
				}
			}
		}
	}
	for n := range 20 {
		put(t, filler(mostBytes-n), mostBytes, shape{1, 2}, i(1, 4), i(2, 4))
		put(t, filler(mostBytes-n), mostBytes, shape{1, 0})
		put(t, filler(mostBytes-n), mostBytes, untyped, s(0))
		put(t, filler(mostBytes-n), mostBytes, shape{5, 0})
		put(t, filler(mostBytes-n), mostBytes, untyped, s(mostBytes))
	}
}

// P17.1: after a vector that did not fit, every call returns the buffer's error.
func TestAfterLimit(t *testing.T) {
	b, _ := put(t, "abc", 6, untyped, i(5, 1), s(0))
	n := b.Len()
	for _, x := range append(slices.Clone(shapes), shape{5, 0}) {
		if v, e := vec.Put(b, x.elem, x.many); v != (api.Value{}) || e != errLimit || b.Len() != n {
			t.Errorf("Put(%d, %d) = %v, %d", x.elem, x.many, v, e)
		}
	}
}
