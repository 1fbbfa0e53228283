package vec_test

import (
	"bytes"
	"math"
	"slices"
	"strconv"
	"strings"
	"testing"

	"accordion/api"
	"accordion/buf"
	"accordion/vec"
)

// The model follows the chapter's definitions, with its own numbers; of the program it uses only the types of values and error numbers.

const (
	errNil    = 1
	errArg    = 2
	errLimit  = 5
	errRange  = 6
	errFit    = 10
	errType   = 20
	errKind   = 60
	errOffset = 211
)

const (
	mostBytes  = 1048576 // 2^20, the greatest capacity of a buffer
	mostValues = 1048576 // 2^20
)

// ordered holds the widths from the least to the greatest.
var ordered = []int{1, 2, 4, 8}

// inlineTypes and offsetTypes hold every type, as chapter 2 has them.
var (
	inlineTypes = []int{0, 1, 2, 26}
	offsetTypes = []int{4, 5, 6, 7, 9, 10, 11, 12, 14, 16, 17, 19, 20, 22, 23, 25, 36}
)

// noTypes holds numbers that are not types, some of which would be if they lost their upper bits or their sign.
var noTypes = []int{3, 8, 13, 15, 18, 21, 24, 27, 35, 37, 63, 64, 100, 255, 256, 257, 282, 1 << 32, 1<<32 + 1, 1<<32 + 5, 1<<62 + 2, math.MaxInt, -1, -2, -26, -256, math.MinInt, math.MinInt + 1}

// noWidths holds numbers that are not widths, some of which would be if they lost their upper bits or their sign.
var noWidths = []int{math.MinInt, math.MinInt + 1, -8, -4, -2, -1, 0, 3, 5, 6, 7, 9, 16, 32, 64, 256, 257, 258, 1 << 32, 1<<32 + 1, 1<<32 + 8, 1<<62 + 4, math.MaxInt - 7, math.MaxInt}

// shape is the form of a vector as the two numbers give it.
type shape struct{ elem, many int }

// kinds holds the types of the vectors that there are.
var kinds = map[shape]int{
	{-1, 0}: 10,
	{1, 0}:  11, {2, 0}: 12, {4, 0}: 14, {26, 0}: 36,
	{1, 2}: 16, {2, 2}: 17, {1, 3}: 19, {2, 3}: 20, {1, 4}: 22, {2, 4}: 23,
}

// shapes holds the forms that there are, in a fixed order.
var shapes = []shape{{-1, 0}, {1, 0}, {2, 0}, {4, 0}, {26, 0}, {1, 2}, {2, 2}, {1, 3}, {2, 3}, {1, 4}, {2, 4}}

func isInline(kind int) bool {
	return slices.Contains(inlineTypes, kind)
}

// fitsNumber tells whether a number is less than 2^(8 w).
func fitsNumber(n uint64, w int) bool {
	switch w {
	case 1:
		return n < 256
	case 2:
		return n < 65536
	case 4:
		return n < 4294967296
	}
	return true
}

// little holds a number in w bytes, least significant byte first.
func little(n uint64, w int) string {
	s := ""
	for i := range w {
		s += string([]byte{byte(n >> (8 * i))})
	}
	return s
}

// firstAt is the byte offset of the first element of a vector that is written behind at bytes.
func firstAt(at, w int, x shape) int {
	for at%w != 0 {
		at++
	}
	if x.many == 0 {
		at += w
	}
	return at
}

// valueError is what P17.1 says of a single value.
func valueError(x shape, v api.Value) api.Errno {
	switch {
	case !isInline(v.Type) && !slices.Contains(offsetTypes, v.Type):
		return errType
	case x.elem != -1 && v.Type != x.elem:
		return errKind
	case !isInline(v.Type) && !slices.Contains(ordered, v.Width):
		return errArg
	}
	return 0
}

// callError is what P17.1 says of the arguments, apart from the width.
func callError(x shape, l []api.Value) api.Errno {
	if kinds[x] == 0 {
		return errType
	}
	if x.many > 0 && len(l) != x.many {
		return errArg
	}
	for _, v := range l {
		if e := valueError(x, v); e != 0 {
			return e
		}
	}
	return 0
}

// fitsAt tells whether everything fits at a width.
func fitsAt(at, w int, x shape, l []api.Value) bool {
	if x.many == 0 && !fitsNumber(uint64(len(l)), w) {
		return false
	}
	position := firstAt(at, w, x)
	for _, v := range l {
		if isInline(v.Type) && v.Width > w {
			return false
		}
		if !isInline(v.Type) && (v.N > uint64(at) || !fitsNumber(uint64(position)-v.N, w)) {
			return false
		}
		position += w
	}
	return true
}

// leastWidth is the least width at which everything fits, or 0.
func leastWidth(at int, x shape, l []api.Value) int {
	if len(l) > mostValues {
		return 0
	}
	for _, w := range ordered {
		if fitsAt(at, w, x, l) {
			return w
		}
	}
	return 0
}

// encoding is the definition of the encoding with a width.
func encoding(at, w int, x shape, l []api.Value) string {
	var s strings.Builder
	for (at+s.Len())%w != 0 {
		s.WriteByte(0)
	}
	if x.many == 0 {
		s.WriteString(little(uint64(len(l)), w))
	}
	for _, v := range l {
		n := v.N
		if !isInline(v.Type) {
			n = uint64(at+s.Len()) - v.N
		}
		s.WriteString(little(n, w))
	}
	if x.elem == -1 {
		for _, v := range l {
			own := v.Width
			if isInline(v.Type) {
				own = w
			}
			s.WriteByte(byte(4*v.Type + slices.Index(ordered, own)))
		}
	}
	return s.String()
}

// outcome is what a call appends and returns.
type outcome struct {
	added string
	value api.Value
	err   api.Errno
}

// wanted is P17.1 for a buffer without an error that holds at bytes.
func wanted(at, capacity int, x shape, l []api.Value) outcome {
	if e := callError(x, l); e != 0 {
		return outcome{err: e}
	}
	w := leastWidth(at, x, l)
	if w == 0 {
		return outcome{err: errOffset}
	}
	added := encoding(at, w, x, l)
	if at+len(added) > capacity {
		return outcome{added: added, err: errLimit}
	}
	return outcome{added: added, value: api.Value{Type: kinds[x], Width: w, N: uint64(firstAt(at, w, x))}}
}

// holding is a buffer with the given contents.
func holding(contents string, capacity int) *buf.Buf {
	b := buf.New(capacity)
	b.Text(contents)
	return b
}

// filler holds n bytes, none of which is 00.
func filler(n int) string {
	return strings.Repeat("f", n)
}

// put makes a call on a buffer with the given contents and compares everything with the model.
func put(t *testing.T, before string, capacity int, x shape, l ...api.Value) (*buf.Buf, api.Value) {
	t.Helper()
	b := holding(before, capacity)
	want := wanted(len(before), capacity, x, l)
	v, e := vec.Put(b, x.elem, x.many, l...)
	if v != want.value || e != want.err {
		t.Fatalf("with %d bytes of %d, Put(%d, %d, %s) = %v, %d; want %v, %d", len(before), capacity, x.elem, x.many, show(l...), v, e, want.value, want.err)
	}
	if want.err == errLimit {
		if b.Err() != errLimit || b.Len() < len(before) || b.Len() > capacity {
			t.Fatalf("with %d bytes of %d, Put(%d, %d, %s): Err %d, Len %d", len(before), capacity, x.elem, x.many, show(l...), b.Err(), b.Len())
		}
		return b, v
	}
	after := before
	if want.err == 0 {
		after += want.added
	}
	got, e := b.Bytes()
	if string(got) != after || e != 0 {
		t.Fatalf("with %d bytes of %d, Put(%d, %d, %s) leaves %s, %d; want %s", len(before), capacity, x.elem, x.many, show(l...), digits(got, len(before)), e, digits([]byte(after), len(before)))
	}
	return b, v
}

// s is a string value with a byte offset.
func s(n int) api.Value {
	return api.Value{Type: api.TStr, Width: 1, N: uint64(n)}
}

// k is the value of a key with a byte offset.
func k(n int) api.Value {
	return api.Value{Type: api.TKey, Width: 1, N: uint64(n)}
}

// i is a KInt value with a width.
func i(n int64, w int) api.Value {
	return api.Value{Type: api.TInt, Width: w, N: uint64(n)}
}

// u is a KUint value with a width.
func u(n uint64, w int) api.Value {
	return api.Value{Type: api.TUint, Width: w, N: n}
}

// repeat holds a value n times.
func repeat(n int, v api.Value) []api.Value {
	return slices.Repeat([]api.Value{v}, n)
}

// show shortens a list of values for a message.
func show(l ...api.Value) string {
	var s []string
	for _, v := range l[:min(len(l), 8)] {
		s = append(s, strconv.Itoa(v.Type)+":"+strconv.Itoa(v.Width)+":"+strconv.FormatUint(v.N, 10))
	}
	if len(l) > 8 {
		s = append(s, ".. ("+strconv.Itoa(len(l))+" values)")
	}
	return strings.Join(s, " ")
}

// digits shortens what has been written behind at bytes for a message.
func digits(b []byte, at int) string {
	if len(b) < at {
		return strconv.Itoa(len(b)) + " bytes"
	}
	var s bytes.Buffer
	for _, c := range b[at:min(len(b), at+40)] {
		s.WriteString(strconv.FormatInt(int64(c)+256, 16)[1:] + " ")
	}
	return s.String() + "(" + strconv.Itoa(len(b)) + " bytes)"
}

// eachList calls use with all lists of up to n of the given values.
func eachList(n int, of []api.Value, use func(l []api.Value)) {
	var extend func(l []api.Value)
	extend = func(l []api.Value) {
		use(l)
		for _, v := range of {
			if len(l) < n {
				extend(append(l[:len(l):len(l)], v))
			}
		}
	}
	extend(nil)
}

// read is what an independent reader finds at the value of a vector.
type read struct {
	length int
	nums   []uint64 // the elements as they are stored
	at     []int    // their positions
	tags   []byte
	end    int
}

// readBack reads a vector by its value, with the number of elements of a fixed vector or 0.
func readBack(b []byte, v api.Value, many int) read {
	num := func(at int) uint64 {
		n := uint64(0)
		for i := range v.Width {
			n += uint64(b[at+i]) << (8 * i)
		}
		return n
	}
	r := read{length: many, end: int(v.N)}
	if many == 0 {
		r.length = int(num(r.end - v.Width))
	}
	for range r.length {
		r.nums, r.at = append(r.nums, num(r.end)), append(r.at, r.end)
		r.end += v.Width
	}
	if v.Type == api.TVec {
		r.tags = b[r.end : r.end+r.length]
		r.end += r.length
	}
	return r
}
