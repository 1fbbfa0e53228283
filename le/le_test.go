package le_test

import (
	"bytes"
	"encoding/binary"
	"math"
	"testing"

	"accordion/api"
	"accordion/le"
)

var widths = []int{1, 2, 4, 8}

var notWidths = []int{math.MinInt, -8, -1, 0, 3, 5, 6, 7, 9, 16, 64, math.MaxInt}

// unsigned holds the edges of every width and numbers whose bytes all differ.
var unsigned = []uint64{
	0, 1, 0x7f, 0x80, 0xfe, 0xff,
	0x100, 0x102, 0x7fff, 0x8000, 0xff00, 0xffff,
	0x10000, 0x01020304, 0x7fffffff, 0x80000000, 0xfffffffe, 0xffffffff,
	0x100000000, 0x0102030405060708, 0xf1f2f3f4f5f6f7f8,
	math.MaxInt64, 1 << 63, math.MaxUint64 - 1, math.MaxUint64,
}

// signed holds the edges of every width and numbers whose bytes all differ.
var signed = []int64{
	0, 1, -1, -2, 127, 128, -127, -128, -129, 255, 256, -256,
	math.MaxInt16, math.MaxInt16 + 1, math.MinInt16, math.MinInt16 - 1, 0x1234, -0x1234,
	math.MaxInt32, math.MaxInt32 + 1, math.MinInt32, math.MinInt32 - 1, 0x12345678, -0x12345678,
	math.MaxInt64, math.MaxInt64 - 1, math.MinInt64, math.MinInt64 + 1, 0x0102030405060708, -0x0102030405060708,
}

// samples holds w bytes each: sign bits set and clear at both ends.
func samples(w int) [][]byte {
	var l [][]byte
	for _, u := range unsigned {
		l = append(l, binary.LittleEndian.AppendUint64(nil, u)[:w], binary.BigEndian.AppendUint64(nil, u)[:w])
	}
	return l
}

// greatest and the two bounds below follow the document's definition of 'fits'.
func greatest(w int) uint64 {
	return map[int]uint64{1: math.MaxUint8, 2: math.MaxUint16, 4: math.MaxUint32, 8: math.MaxUint64}[w]
}

func greatestInt(w int) int64 {
	return map[int]int64{1: math.MaxInt8, 2: math.MaxInt16, 4: math.MaxInt32, 8: math.MaxInt64}[w]
}

func leastInt(w int) int64 {
	return map[int]int64{1: math.MinInt8, 2: math.MinInt16, 4: math.MinInt32, 8: math.MinInt64}[w]
}

// wantInt interprets w bytes with the library's own integer types.
func wantInt(b []byte) int64 {
	switch len(b) {
	case 1:
		return int64(int8(b[0]))
	case 2:
		return int64(int16(binary.LittleEndian.Uint16(b)))
	case 4:
		return int64(int32(binary.LittleEndian.Uint32(b)))
	}
	return int64(binary.LittleEndian.Uint64(b))
}

func wantUint(b []byte) uint64 {
	full := make([]byte, 8)
	copy(full, b)
	return binary.LittleEndian.Uint64(full)
}

func wantBytes(w int, u uint64) []byte {
	return binary.LittleEndian.AppendUint64(nil, u)[:w]
}

func checkLoad(t *testing.T, b []byte, at, w int, want uint64, wantErr api.Errno) {
	t.Helper()
	if u, e := le.Load(b, at, w); u != want || e != wantErr {
		t.Errorf("Load(% x, %d, %d) = %d, %d; want %d, %d", b, at, w, u, e, want, wantErr)
	}
}

func checkLoadInt(t *testing.T, b []byte, at, w int, want int64, wantErr api.Errno) {
	t.Helper()
	if n, e := le.LoadInt(b, at, w); n != want || e != wantErr {
		t.Errorf("LoadInt(% x, %d, %d) = %d, %d; want %d, %d", b, at, w, n, e, want, wantErr)
	}
}

func checkPut(t *testing.T, b []byte, w int, u uint64, want []byte, wantErr api.Errno) {
	t.Helper()
	if x, e := le.Put(b, w, u); !bytes.Equal(x, want) || e != wantErr {
		t.Errorf("Put(% x, %d, %d) = % x, %d; want % x, %d", b, w, u, x, e, want, wantErr)
	}
}

func checkPutInt(t *testing.T, b []byte, w int, n int64, want []byte, wantErr api.Errno) {
	t.Helper()
	if x, e := le.PutInt(b, w, n); !bytes.Equal(x, want) || e != wantErr {
		t.Errorf("PutInt(% x, %d, %d) = % x, %d; want % x, %d", b, w, n, x, e, want, wantErr)
	}
}

func checkSet(t *testing.T, b []byte, at, w int, u uint64, want []byte, wantErr api.Errno) {
	t.Helper()
	if x, e := le.Set(b, at, w, u); !bytes.Equal(x, want) || e != wantErr {
		t.Errorf("Set(% x, %d, %d, %d) = % x, %d; want % x, %d", b, at, w, u, x, e, want, wantErr)
	}
}

// The table of the chapter's section 'Examples'.
func TestExamples(t *testing.T) {
	b := []byte{0x01, 0x02, 0xff}
	checkLoad(t, b, 0, 2, 513, api.OK)
	checkLoad(t, b, 2, 1, 255, api.OK)
	checkLoad(t, b, 2, 2, 0, api.ErrRange)
	checkLoad(t, b, 0, 3, 0, api.ErrArg)
	checkLoadInt(t, b, 2, 1, -1, api.OK)
	checkLoadInt(t, []byte{0x00, 0x80}, 0, 2, -32768, api.OK)
	checkPut(t, []byte{0xaa}, 2, 513, []byte{0xaa, 0x01, 0x02}, api.OK)
	checkPut(t, nil, 1, 256, nil, api.ErrFit)
	checkPutInt(t, nil, 2, -2, []byte{0xfe, 0xff}, api.OK)
	checkPutInt(t, nil, 1, 128, nil, api.ErrFit)
	checkSet(t, []byte{1, 2, 3}, 1, 2, 0, []byte{1, 0, 0}, api.OK)
	checkSet(t, []byte{1}, 1, 1, 0, nil, api.ErrRange)
	checkSet(t, []byte{1}, -1, 1, 0, nil, api.ErrRange)
}

// P1.1: values at every offset and of every width.
func TestLoadValues(t *testing.T) {
	for _, w := range widths {
		for _, part := range samples(w) {
			for before := 0; before <= 3; before++ {
				b := append(bytes.Repeat([]byte{0xa5}, before), part...)
				b = append(b, 0x5a)
				checkLoad(t, b, before, w, wantUint(part), api.OK)
				checkLoadInt(t, b, before, w, wantInt(part), api.OK)
			}
		}
	}
}

// P1.1: a number that is not a width is reported before an offset out of range.
func TestLoadNotWidth(t *testing.T) {
	for _, w := range notWidths {
		for _, at := range []int{math.MinInt, -1, 0, 1, 20, math.MaxInt} {
			checkLoad(t, make([]byte, 20), at, w, 0, api.ErrArg)
			checkLoadInt(t, make([]byte, 20), at, w, 0, api.ErrArg)
			checkLoad(t, nil, at, w, 0, api.ErrArg)
			checkLoadInt(t, nil, at, w, 0, api.ErrArg)
		}
	}
}

// P1.1: exactly the offsets from 0 to len(b) - w are in range; the capacity behind b does not count.
func TestLoadRange(t *testing.T) {
	far := []int{math.MinInt, math.MinInt + 8, math.MaxInt - 8, math.MaxInt - 7, math.MaxInt - 1, math.MaxInt}
	for _, w := range widths {
		for size := 0; size <= 10; size++ {
			b := bytes.Repeat([]byte{0xff}, 30)[:size]
			for at := -10; at <= 20; at++ {
				if at >= 0 && at+w <= size {
					checkLoad(t, b, at, w, greatest(w), api.OK)
					checkLoadInt(t, b, at, w, -1, api.OK)
				} else {
					checkLoad(t, b, at, w, 0, api.ErrRange)
					checkLoadInt(t, b, at, w, 0, api.ErrRange)
				}
			}
			for _, at := range far {
				checkLoad(t, b, at, w, 0, api.ErrRange)
				checkLoadInt(t, b, at, w, 0, api.ErrRange)
			}
		}
	}
}

// P1.2: Put at the edges of every width.
func TestPut(t *testing.T) {
	for _, front := range [][]byte{nil, {}, {0xaa}, {1, 2, 3, 4, 5, 6, 7, 8, 9}} {
		for _, w := range widths {
			for _, u := range unsigned {
				if u <= greatest(w) {
					checkPut(t, front, w, u, append(bytes.Clone(front), wantBytes(w, u)...), api.OK)
				} else {
					checkPut(t, front, w, u, nil, api.ErrFit)
				}
			}
		}
	}
}

// P1.2: PutInt at the edges of every width.
func TestPutInt(t *testing.T) {
	for _, front := range [][]byte{nil, {}, {0xaa}, {1, 2, 3, 4, 5, 6, 7, 8, 9}} {
		for _, w := range widths {
			for _, n := range signed {
				if leastInt(w) <= n && n <= greatestInt(w) {
					checkPutInt(t, front, w, n, append(bytes.Clone(front), wantBytes(w, uint64(n))...), api.OK)
				} else {
					checkPutInt(t, front, w, n, nil, api.ErrFit)
				}
			}
		}
	}
}

// P1.2: a number that is not a width is reported before an integer that does not fit.
func TestPutNotWidth(t *testing.T) {
	for _, w := range notWidths {
		for _, u := range unsigned {
			checkPut(t, []byte{1}, w, u, nil, api.ErrArg)
			checkPutInt(t, []byte{1}, w, int64(u), nil, api.ErrArg)
		}
	}
}

// P1.3: the values, and the order ErrArg, ErrRange, ErrFit.
func TestSet(t *testing.T) {
	for _, w := range widths {
		for size := 0; size <= 10; size++ {
			b := bytes.Repeat([]byte{0xa5}, 30)[:size]
			for at := -3; at <= 12; at++ {
				for _, u := range unsigned {
					want, wantErr := setByHand(b, at, w, u)
					checkSet(t, b, at, w, u, want, wantErr)
				}
			}
			for _, at := range []int{math.MinInt, math.MaxInt - 7, math.MaxInt} {
				checkSet(t, b, at, w, math.MaxUint64, nil, api.ErrRange)
			}
		}
	}
	for _, w := range notWidths {
		for _, at := range []int{math.MinInt, -1, 0, 20, math.MaxInt} {
			checkSet(t, make([]byte, 20), at, w, 0, nil, api.ErrArg)
			checkSet(t, nil, at, w, math.MaxUint64, nil, api.ErrArg)
		}
	}
}

func setByHand(b []byte, at, w int, u uint64) ([]byte, api.Errno) {
	if at < 0 || at+w > len(b) {
		return nil, api.ErrRange
	}
	if u > greatest(w) {
		return nil, api.ErrFit
	}
	x := append(bytes.Clone(b[:at]), wantBytes(w, u)...)
	return append(x, b[at+w:]...), api.OK
}

// P1.4: neither the bytes of an argument nor the capacity behind them change, even if the result is modified.
func TestArgumentsStay(t *testing.T) {
	calls := map[string]func(b []byte) []byte{
		"Put":       func(b []byte) []byte { x, _ := le.Put(b, 4, 0x01020304); return x },
		"PutInt":    func(b []byte) []byte { x, _ := le.PutInt(b, 8, -5); return x },
		"Set":       func(b []byte) []byte { x, _ := le.Set(b, 2, 4, 0x01020304); return x },
		"Set whole": func(b []byte) []byte { x, _ := le.Set(b, 0, 8, 0x0102030405060708); return x },
		"Set same":  func(b []byte) []byte { x, _ := le.Set(b, 2, 1, 0xa5); return x },
		"Load":      func(b []byte) []byte { le.Load(b, 0, 8); return nil },
		"LoadInt":   func(b []byte) []byte { le.LoadInt(b, 0, 8); return nil },
	}
	for name, call := range calls {
		memory := bytes.Repeat([]byte{0xa5}, 32)
		before := bytes.Clone(memory)
		result := call(memory[:8])
		if !bytes.Equal(memory, before) {
			t.Errorf("%s changes its argument: % x", name, memory)
		}
		for i := range result {
			result[i] = 0x77
		}
		for i := range result[len(result):cap(result)] {
			result[len(result):cap(result)][i] = 0x77
		}
		if !bytes.Equal(memory, before) {
			t.Errorf("the result of %s shares memory with its argument: % x", name, memory)
		}
	}
}

// P1.4: a result does not follow later changes of the argument.
func TestResultsStay(t *testing.T) {
	b := make([]byte, 8, 32)
	put, _ := le.Put(b, 1, 9)
	putInt, _ := le.PutInt(b, 1, 9)
	set, _ := le.Set(b, 7, 1, 9)
	for i := range b {
		b[i] = 0x77
	}
	for _, x := range [][]byte{put[:7], putInt[:7], set[:7]} {
		if !bytes.Equal(x, make([]byte, 7)) {
			t.Errorf("a result follows its argument: % x", x)
		}
	}
}

var surroundings = [][]byte{nil, {0}, {0xff}, {0x80, 0x7f, 0x80}, {1, 2, 3, 4, 5, 6, 7, 8, 9}}

// P1.5: an encoded integer is decoded unchanged, whatever precedes and follows it.
func TestDecodeWhatWasEncoded(t *testing.T) {
	for _, before := range surroundings {
		for _, after := range surroundings {
			for _, w := range widths {
				for _, u := range unsigned {
					if x, e := le.Put(before, w, u); e == api.OK {
						checkLoad(t, append(x, after...), len(before), w, u, api.OK)
					}
				}
				for _, n := range signed {
					if x, e := le.PutInt(before, w, n); e == api.OK {
						checkLoadInt(t, append(x, after...), len(before), w, n, api.OK)
					}
				}
			}
		}
	}
}

// P1.5: every byte and every pair of bytes, and samples of the greater widths, are encoded again to the same bytes.
func TestEncodeWhatWasDecoded(t *testing.T) {
	for i := range 1 << 16 {
		pair := []byte{byte(i), byte(i >> 8)}
		checkAgain(t, pair)
		checkAgain(t, pair[:1])
	}
	for _, w := range widths {
		for _, part := range samples(w) {
			checkAgain(t, part)
		}
	}
}

func checkAgain(t *testing.T, part []byte) {
	t.Helper()
	w := len(part)
	u, e := le.Load(part, 0, w)
	if e != api.OK {
		t.Errorf("Load(% x): %d", part, e)
	}
	checkPut(t, nil, w, u, part, api.OK)
	n, e := le.LoadInt(part, 0, w)
	if e != api.OK {
		t.Errorf("LoadInt(% x): %d", part, e)
	}
	checkPutInt(t, nil, w, n, part, api.OK)
}

// P1.6: Set changes no other bytes, Load returns the new value, and setting the loaded value changes nothing.
func TestSetThenLoad(t *testing.T) {
	b := []byte{0x00, 0xff, 0x80, 0x7f, 1, 2, 3, 4, 0xfe, 0xaa, 0x55, 0x10}
	for _, w := range widths {
		for at := 0; at+w <= len(b); at++ {
			old, _ := le.Load(b, at, w)
			checkSet(t, b, at, w, old, b, api.OK)
			for _, u := range unsigned {
				x, e := le.Set(b, at, w, u)
				if u > greatest(w) {
					continue
				}
				if e != api.OK || len(x) != len(b) || !bytes.Equal(x[:at], b[:at]) || !bytes.Equal(x[at+w:], b[at+w:]) {
					t.Errorf("Set(% x, %d, %d, %d) = % x, %d", b, at, w, u, x, e)
					continue
				}
				checkLoad(t, x, at, w, u, api.OK)
				checkSet(t, x, at, w, old, b, api.OK)
			}
		}
	}
}

// P1.7: an encoding extended by 00, or by FF for a negative integer, is the encoding in the greater width.
func TestExtension(t *testing.T) {
	for i, w := range widths {
		for _, wide := range widths[i+1:] {
			for _, u := range unsigned {
				if x, e := le.Put(nil, w, u); e == api.OK {
					checkPut(t, nil, wide, u, append(x, make([]byte, wide-w)...), api.OK)
				}
			}
			for _, n := range signed {
				fill := []byte{0x00}
				if n < 0 {
					fill = []byte{0xff}
				}
				if x, e := le.PutInt(nil, w, n); e == api.OK {
					x = append(x, bytes.Repeat(fill, wide-w)...)
					checkPutInt(t, nil, wide, n, x, api.OK)
					checkLoadInt(t, x, 0, wide, n, api.OK)
				}
			}
		}
	}
}
