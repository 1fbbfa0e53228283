package buf_test

import (
	"math"
	"slices"
	"strings"
	"testing"

	"accordion/api"
	"accordion/buf"
)

var widths = []int{1, 2, 4, 8}

// notWidths holds numbers that are no widths, some of which would pass for widths if they lost their upper bits.
var notWidths = []int{math.MinInt, math.MinInt + 1, -8, -4, -2, -1, 0, 3, 5, 6, 7, 9, 10, 12, 16, 32, 64, 1<<8 + 1, 1<<16 + 2, 1<<32 + 1, 1<<32 + 8, math.MaxInt - 7, math.MaxInt}

// numbers holds the edges of every width and numbers whose bytes all differ.
var numbers = []uint64{
	0, 1, 0x7f, 0x80, 0xfe, 0xff, 0x100, 0x102, 0x7fff, 0x8000, 0xff00, 0xfffe, 0xffff,
	0x10000, 0x10001, 0x01020304, 0x7fffffff, 0x80000000, 0xfffffffe, 0xffffffff,
	0x100000000, 0x100000001, 0x0102030405060708, 0xf1f2f3f4f5f6f7f8, math.MaxInt64, 1 << 63, math.MaxUint64 - 1, math.MaxUint64,
}

// capacities holds small capacities, and those around the greatest one and at the ends of int.
var capacities = []int{math.MinInt, -most, -1, 0, 1, 2, 3, 7, 8, 9, 255, 256, 257, 65535, 65536, most - 1, most, most + 1, 2 * most, 1 << 32, 1<<32 + 5, math.MaxInt}

// holds checks what the three methods that read say of a buffer.
func holds(t *testing.T, after string, b *buf.Buf, contents string, e api.Errno) {
	t.Helper()
	if n, got := b.Len(), b.Err(); n != len(contents) || got != e {
		t.Errorf("after %s: Len %d, Err %d; want %d, %d", after, n, got, len(contents), e)
	}
	got, gotE := b.Bytes()
	want := contents
	if e != 0 {
		want = ""
	}
	if string(got) != want || gotE != e {
		t.Errorf("after %s: Bytes % x, %d; want % x, %d", after, brief(string(got)), gotE, brief(want), e)
	}
}

// run makes the calls one after the other on a buffer and on the model, and compares the two after each call.
func run(t *testing.T, capacity int, l ...call) {
	t.Helper()
	b, m := buf.New(capacity), newModel(capacity)
	holds(t, "New", b, "", 0)
	for i, c := range l {
		c.on(b)
		c.applyTo(m)
		holds(t, names(l[:i+1]), b, m.contents, m.err)
	}
}

func filler(n int) string {
	return strings.Repeat("f", n)
}

// The table of the chapter's section 'Examples'.
func TestExamples(t *testing.T) {
	b := buf.New(10)
	b.Text("a", "b")
	b.Align(4)
	b.Num(2, 300)
	holds(t, "Num(2, 300)", b, "\x61\x62\x00\x00\x2c\x01", api.OK)
	b.Cut(3)
	holds(t, "Cut(3)", b, "\x61\x62\x00", api.OK)
	b.Text("xyz")
	holds(t, "Text(xyz)", b, "\x61\x62\x00\x78\x79\x7a", api.OK)
	b.Num(1, 256)
	holds(t, "Num(1, 256)", b, "\x61\x62\x00\x78\x79\x7a", api.ErrFit)
	b.Text("a")
	holds(t, "Text(a)", b, "\x61\x62\x00\x78\x79\x7a", api.ErrFit)

	b = buf.New(3)
	b.Align(8)
	b.Text("abc")
	b.Text("d")
	holds(t, "Text(d)", b, "abc", api.ErrLimit)

	b = buf.New(9)
	b.Align(3)
	holds(t, "Align(3)", b, "", api.ErrArg)
	b = buf.New(9)
	b.Cut(1)
	holds(t, "Cut(1)", b, "", api.ErrRange)
}

// P13.1: a new buffer is empty, and exactly its capacity can be appended, at once and byte by byte.
func TestCapacities(t *testing.T) {
	for _, capacity := range capacities {
		full := newModel(capacity).capacity
		run(t, capacity, text(filler(full)), text(""), num(1, 7))
		run(t, capacity, text(filler(full+1)))
		run(t, capacity, text(filler(full)), text("x"))
		run(t, capacity, text(filler(full), "x"))
		run(t, capacity, text("x", filler(full)))
		run(t, capacity, text(filler(full)), align(1), cut(full), cut(0), text(filler(full)))
		b := buf.New(capacity)
		for range full {
			b.Num(1, 0x66)
		}
		holds(t, "filling", b, filler(full), api.OK)
		b.Num(1, 0x66)
		holds(t, "overfilling", b, filler(full), api.ErrLimit)
	}
}

// P13.2: Align from every length up to two of the greatest width.
func TestAlign(t *testing.T) {
	b := buf.New(8)
	b.Num(1, 0xff)
	for _, w := range widths {
		b.Align(w)
		holds(t, "Align", b, "\xff"+strings.Repeat("\x00", w-1), api.OK)
	}
	for n := range 17 {
		for _, w := range widths {
			run(t, 100, text(filler(n)), align(w), align(w), text("x"))
		}
		for _, w := range notWidths {
			run(t, 100, text(filler(n)), align(w), text("x"))
		}
	}
}

// P13.2: what Align appends fits exactly, or not at all; a length that is a multiple already needs no room.
func TestAlignLimit(t *testing.T) {
	for capacity := range 18 {
		for n := range capacity + 1 {
			for _, w := range widths {
				run(t, capacity, text(filler(n)), align(w), text("x"))
			}
			run(t, capacity, text(filler(n)), align(3))
		}
	}
	run(t, most, text(filler(most-7)), align(8), align(8), num(1, 1))
	run(t, most-1, text(filler(most-7)), align(4), align(8))
	run(t, most-1, text(filler(most-1)), align(2))
}

// P13.2: Num at the edges of every width.
func TestNum(t *testing.T) {
	b := buf.New(100)
	b.Num(1, 0xf1)
	b.Num(2, 0xf1f2)
	b.Num(4, 0xf1f2f3f4)
	b.Num(8, 0xf1f2f3f4f5f6f7f8)
	b.Num(8, 1)
	holds(t, "Num", b, "\xf1\xf2\xf1\xf4\xf3\xf2\xf1\xf8\xf7\xf6\xf5\xf4\xf3\xf2\xf1\x01\x00\x00\x00\x00\x00\x00\x00", api.OK)
	for _, u := range numbers {
		for _, w := range widths {
			run(t, 100, num(w, u), num(w, u/2))
			run(t, 100, text("abc"), num(w, u), text("x"))
		}
	}
}

// P13.2: the order of the errors of Num: the width, the number, the capacity.
func TestNumErrors(t *testing.T) {
	for _, u := range numbers {
		for _, w := range notWidths {
			run(t, 100, text("abc"), num(w, u), text("x"))
			run(t, 0, num(w, u))
		}
	}
	for capacity := range 10 {
		for _, w := range widths {
			for _, u := range numbers {
				run(t, capacity, num(w, u))
				run(t, capacity, num(1, 5), num(w, u))
			}
		}
	}
}

// P13.2: Text appends the strings in their order, whatever their bytes are and however many there are.
func TestText(t *testing.T) {
	b := buf.New(100)
	b.Text("b", "", "a\x00", "\xff\xc3", "\u20ac")
	holds(t, "Text", b, "ba\x00\xff\xc3\xe2\x82\xac", api.OK)
	var bytes, long []string
	for i := range 256 {
		bytes = append(bytes, string([]byte{byte(i)}))
		long = append(long, filler(i))
	}
	run(t, most, text(), text(""), text("", "", ""), text("a"), text(), text("bc", "d"))
	run(t, most, text(bytes...), text(long...), text(strings.Join(bytes, "")))
	run(t, 256, text(bytes...), text())
	run(t, 255, text(bytes...))
	run(t, most, text(slices.Repeat([]string{""}, 100000)...), text(slices.Repeat([]string{"ab"}, most/2)...), text("", ""), text("", "x"))
}

// P13.2: Text appends all of its strings or none of them, also if a part of them would fit.
func TestTextLimit(t *testing.T) {
	for capacity := range 8 {
		for _, l := range [][]string{{}, {""}, {"a"}, {"ab", "c"}, {"a", "bc"}, {"", "abc", ""}, {"abcd", "e", ""}, {"a", "b", "c", "d", "e", "f"}, {"", "abcdefgh"}} {
			for n := range capacity + 1 {
				run(t, capacity, text(filler(n)), text(l...), text("x"), text())
			}
		}
	}
	b := buf.New(most)
	b.Text("a")
	b.Text(slices.Repeat([]string{filler(most)}, 2000)...)
	holds(t, "Text of 2000 MiB", b, "a", api.ErrLimit)
}

// P13.3: Cut at every place and beyond both ends; the room behind the contents does not count.
func TestCut(t *testing.T) {
	for n := range 12 {
		for to := -12; to <= 24; to++ {
			run(t, 20, text("abcdefghijkl"[:n]), cut(to), text("x"))
			run(t, n, text("abcdefghijkl"[:n]), cut(to), text("x"))
			run(t, 20, text("0123456789abcdefghi"), cut(n), cut(to), align(4))
		}
		for _, to := range []int{math.MinInt, math.MinInt + n, -most, most, 1 << 32, 1<<32 + n, math.MaxInt} {
			run(t, 20, text("abcdefghijkl"[:n]), cut(to), text("x"))
		}
	}
	run(t, most, text(filler(most)), cut(most), cut(most-1), text("xy"), text("x"))
	run(t, most, text(filler(most)), cut(most+1))
	run(t, 0, cut(0), cut(-1))
}

// someCalls holds calls that succeed or fail with each of the errors.
func someCalls() []call {
	return []call{
		align(1), align(2), align(8), align(3), align(0), num(1, 0xa1), num(2, 0xa2a1), num(8, 0xa8a7a6a5a4a3a2a1), num(1, 256), num(4, 1<<32), num(3, 256),
		text(), text("b", "cd"), text("efghijklmnopq"), text(filler(most + 1)), cut(0), cut(1), cut(3), cut(9), cut(-1),
	}
}

// P13.4, P13.7: of two errors in a row the first one stays, and the contents too.
func TestFirstErrorStays(t *testing.T) {
	failing := []call{align(3), num(5, 0), num(1, 256), num(2, 1<<16), text("01234567890"), num(8, 0), align(8), cut(7), cut(-1)}
	for _, c := range failing {
		b, m := buf.New(7), newModel(7)
		b.Text("abcd", "ef")
		m.contents = "abcdef"
		c.on(b)
		if c.applyTo(m); m.err == 0 {
			t.Fatalf("%s does not fail", c.name)
		}
		for _, next := range append(someCalls(), failing...) {
			next.on(b)
			holds(t, c.name+", "+next.name, b, "abcdef", m.err)
		}
	}
}

// P13.2 to P13.4, P13.6, P13.7: all sequences of up to three calls, with several capacities, are as the model.
func TestSequences(t *testing.T) {
	l := someCalls()
	for _, capacity := range []int{-1, 0, 1, 2, 3, 4, 8, 9, 13, 16, 20, most} {
		for _, c := range l {
			for _, d := range l {
				for _, e := range l {
					run(t, capacity, c, d, e)
				}
			}
		}
	}
}

// P13.4: a nil buffer and a zero one have no contents and ErrNil, whatever is called on them.
func TestNilAndZero(t *testing.T) {
	for _, b := range []*buf.Buf{nil, {}, new(buf.Buf)} {
		holds(t, "nothing", b, "", api.ErrNil)
		for _, c := range append(someCalls(), text("a"), cut(0), align(1), num(1, 1)) {
			c.on(b)
			holds(t, c.name, b, "", api.ErrNil)
		}
	}
	for _, capacity := range []int{math.MinInt, -1, 0} {
		holds(t, "New", buf.New(capacity), "", api.OK)
	}
}

// P13.4, P13.5: the methods that read change nothing; each result of Bytes is memory of its own.
func TestResultsAreNew(t *testing.T) {
	b := buf.New(64)
	b.Text("abcdef")
	first, _ := b.Bytes()
	second, _ := b.Bytes()
	for i := range first {
		first[i] = 'X'
	}
	first = append(first, "more"...)
	holds(t, "a change of the result", b, "abcdef", api.OK)
	if string(second) != "abcdef" || string(first) != "XXXXXXmore" {
		t.Errorf("results share memory: %s, %s", first, second)
	}
	b.Cut(2)
	b.Text("uvwx")
	b.Align(8)
	b.Num(4, 0x01020304)
	holds(t, "Num", b, "abuvwx\x00\x00\x04\x03\x02\x01", api.OK)
	if string(second) != "abcdef" || string(first) != "XXXXXXmore" {
		t.Errorf("a result has changed with the buffer: %s, %s", first, second)
	}
	whole := slices.Clone(second[:cap(second)])
	_ = append(second, strings.Repeat("Y", cap(second)-len(second))...)
	holds(t, "a use of the capacity of the result", b, "abuvwx\x00\x00\x04\x03\x02\x01", api.OK)
	b.Cut(0)
	b.Text(filler(60))
	if string(second) != string(whole[:len(second)]) {
		t.Errorf("a result has changed with the buffer: %s", second)
	}
}

// P13.5: a list of strings is neither changed, with its unused capacity, nor kept.
func TestArgumentsAreKept(t *testing.T) {
	l := []string{"ab", "", "cd", "behind", "the list"}
	for _, capacity := range []int{4, 3, 100} {
		b, m := buf.New(capacity), newModel(capacity)
		b.Text(l[:3]...)
		text(l[:3]...).applyTo(m)
		if !slices.Equal(l, []string{"ab", "", "cd", "behind", "the list"}) {
			t.Fatalf("the argument has changed: %q", l)
		}
		l[0] = "XY"
		holds(t, "a change of the argument", b, m.contents, m.err)
		l[0] = "ab"
	}
}

// Two buffers have nothing in common.
func TestBuffersAreApart(t *testing.T) {
	a, b := buf.New(8), buf.New(4)
	a.Text("abcd")
	b.Text("1234")
	a.Cut(2)
	b.Text("5")
	a.Text("xy")
	holds(t, "Text(xy)", a, "abxy", api.OK)
	holds(t, "Text(5)", b, "1234", api.ErrLimit)
	holds(t, "New", buf.New(4), "", api.OK)
}

// P13.6: what has been appended stays a prefix of the contents, and what Cut removes leaves no trace, not even in what is appended after it.
func TestCutLeavesNoTrace(t *testing.T) {
	appends := []call{align(1), align(2), align(4), align(8), num(1, 0xa1), num(2, 0xa2a1), num(4, 0xa4a3a2a1), num(8, 0xa8a7a6a5a4a3a2a1), text(), text("b"), text("cde", "", "f"), text("ghijklmno")}
	for _, c := range appends {
		for _, removed := range appends {
			for _, more := range appends {
				b, other := buf.New(most), buf.New(most)
				c.on(other)
				start, _ := other.Bytes()
				more.on(other)
				want, _ := other.Bytes()
				if !strings.HasPrefix(string(want), string(start)) {
					t.Errorf("%s, %s: % x does not begin with % x", c.name, more.name, want, start)
				}
				c.on(b)
				removed.on(b)
				b.Cut(len(start))
				holds(t, c.name+", "+removed.name+", Cut", b, string(start), api.OK)
				more.on(b)
				holds(t, c.name+", "+removed.name+", Cut, "+more.name, b, string(want), api.OK)
			}
		}
	}
}

// P13.6, P13.7: Cut makes room again, and a capacity that is used up many times over is still the same.
func TestCutMakesRoom(t *testing.T) {
	b := buf.New(10)
	for i := range 100 {
		b.Text("0123456789")
		b.Cut(i % 11)
		b.Text("abcdefghij"[i%11:])
		holds(t, "Text", b, "0123456789"[:i%11]+"abcdefghij"[i%11:], api.OK)
		b.Cut(0)
	}
	b.Text("01234567890")
	holds(t, "Text", b, "", api.ErrLimit)
}
