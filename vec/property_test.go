package vec_test

import (
	"math"
	"slices"
	"testing"

	"accordion/api"
	"accordion/buf"
	"accordion/vec"
)

// samples holds values of many types, all of which fit behind 300 bytes.
var samples = []api.Value{i(5, 1), i(-300, 2), u(70000, 4), u(math.MaxUint64, 8), {Type: api.TNull, Width: 1}, {Type: api.TBool, Width: 1, N: 1}, s(0), k(299), {Type: api.TVec, Width: 4, N: 7}, {Type: api.TMap, Width: 8, N: 300}, {Type: api.TBlob, Width: 2, N: 45}}

// lists returns lists of values for every form, with the forms.
func lists() map[shape][][]api.Value {
	all := map[shape][][]api.Value{}
	eachList(4, samples, func(l []api.Value) {
		for _, x := range shapes {
			if callError(x, l) == 0 {
				all[x] = append(all[x], slices.Clone(l))
			}
		}
	})
	for _, n := range []int{255, 256, 300} {
		all[untyped] = append(all[untyped], repeat(n, s(200)), append(repeat(n, i(5, 1)), i(5, 2)))
		all[shape{4, 0}] = append(all[shape{4, 0}], repeat(n, k(1)))
		all[shape{26, 0}] = append(all[shape{26, 0}], repeat(n, samples[5]))
	}
	return all
}

// P17.2: the values stay as they are, those in the unused capacity included, whether the call succeeds or not.
func TestValuesStay(t *testing.T) {
	for _, x := range append(slices.Clone(shapes), shape{5, 0}) {
		for _, v := range []api.Value{{Type: x.elem, Width: 1}, s(5), k(0), {Type: 3}} {
			l := append(repeat(5, v), samples...)
			kept := slices.Clone(l)
			for n := range len(l) {
				for _, capacity := range []int{3, 6, 1000} {
					vec.Put(holding("abc", capacity), x.elem, x.many, l[:n]...)
					if !slices.Equal(l, kept) {
						t.Fatalf("Put(%d, %d, %s) has changed the values: %s", x.elem, x.many, show(kept[:n]...), show(l...))
					}
				}
			}
		}
	}
}

// P17.2: what happens to the values after a call changes neither the buffer nor later calls.
func TestValuesAreNotRetained(t *testing.T) {
	for x, all := range lists() {
		for _, l := range all[:min(len(all), 200)] {
			given := slices.Clone(l)
			b, _ := put(t, filler(300), mostBytes, x, given...)
			before, _ := b.Bytes()
			clear(given)
			if after, _ := b.Bytes(); !slices.Equal(after, before) {
				t.Fatalf("the buffer changes with the values %s", show(l...))
			}
			fresh := holding(string(before), mostBytes)
			v, e := vec.Put(b, x.elem, x.many, l...)
			want, wantE := vec.Put(fresh, x.elem, x.many, l...)
			after, _ := b.Bytes()
			wantAfter, _ := fresh.Bytes()
			if v != want || e != wantE || !slices.Equal(after, wantAfter) {
				t.Fatalf("a second Put(%d, %d, %s) depends on the first one", x.elem, x.many, show(l...))
			}
		}
	}
}

// P17.2: an error that is not the buffer's leaves the buffer as it is and able to go on.
func TestErrorsAppendNothing(t *testing.T) {
	wrong := []struct {
		x shape
		l []api.Value
		e api.Errno
	}{
		{shape{5, 0}, []api.Value{s(0)}, errType},
		{shape{-1, 2}, nil, errType},
		{shape{1, 2}, []api.Value{i(1, 1)}, errArg},
		{shape{1, 0}, []api.Value{i(1, 4), i(1, 1), {Type: 3}}, errType},
		{shape{1, 0}, []api.Value{i(1, 4), i(1, 1), u(1, 1)}, errKind},
		{untyped, []api.Value{i(1, 4), s(0), {Type: api.TStr, Width: 3}}, errArg},
		{untyped, []api.Value{i(1, 4), s(0), s(500)}, errOffset},
		{shape{2, 3}, []api.Value{u(1, 1), u(1, 1), u(1, 9)}, errOffset},
	}
	for _, c := range wrong {
		b := holding("abc", 20)
		for range 3 {
			v, e := vec.Put(b, c.x.elem, c.x.many, c.l...)
			got, gotE := b.Bytes()
			if v != (api.Value{}) || e != c.e || string(got) != "abc" || gotE != 0 {
				t.Errorf("Put(%d, %d, %s) = %v, %d, and leaves %q, %d", c.x.elem, c.x.many, show(c.l...), v, e, got, gotE)
			}
		}
		if v, e := vec.Put(b, 1, 2, i(7, 1), i(8, 1)); v != (api.Value{Type: 16, Width: 1, N: 3}) || e != 0 {
			t.Errorf("after an error Put = %v, %d", v, e)
		}
		if got, e := b.Bytes(); string(got) != "abc\x07\x08" || e != 0 {
			t.Errorf("after an error the buffer holds %q, %d", got, e)
		}
	}
}

// P17.3: an independent reader finds the length, each number, the target of each offset, and each tag.
func TestReadBack(t *testing.T) {
	for x, all := range lists() {
		for _, l := range all {
			for _, at := range []int{300, 303} {
				b, v := put(t, filler(at), mostBytes, x, l...)
				got, _ := b.Bytes()
				if string(got[:at]) != filler(at) {
					t.Fatalf("Put(%d, %d, %s) has changed the bytes before", x.elem, x.many, show(l...))
				}
				readsAs(t, got, v, x, l)
			}
		}
	}
}

// readsAs compares what an independent reader finds at the end of a buffer with the values.
func readsAs(t *testing.T, b []byte, v api.Value, x shape, l []api.Value) {
	t.Helper()
	r := readBack(b, v, x.many)
	if r.length != len(l) || r.end != len(b) || int(v.N)%v.Width != 0 {
		t.Fatalf("Put(%d, %d, %s) reads as %d elements of the width %d from %d to %d of %d", x.elem, x.many, show(l...), r.length, v.Width, v.N, r.end, len(b))
	}
	for n, one := range l {
		if isInline(one.Type) {
			shift := 64 - 8*v.Width
			number, want := r.nums[n]<<shift, one.N<<shift
			whole := int64(number)>>shift == int64(one.N) || number>>shift == one.N
			if number != want || !whole {
				t.Errorf("Put(%d, %d, %s): the element %d reads as %d", x.elem, x.many, show(l...), n, r.nums[n])
			}
		} else if uint64(r.at[n])-r.nums[n] != one.N {
			t.Errorf("Put(%d, %d, %s): the element %d at %d has the offset %d", x.elem, x.many, show(l...), n, r.at[n], r.nums[n])
		}
		if x == untyped {
			kind, w := int(r.tags[n]/4), ordered[r.tags[n]%4]
			if kind != one.Type || isInline(kind) && w != v.Width || !isInline(kind) && w != one.Width {
				t.Errorf("Put(%d, %d, %s): the tag %d is %d:%d", x.elem, x.many, show(l...), n, kind, w)
			}
		}
	}
}

// P17.4: with the next lesser width a number or an offset would not have fitted.
func TestNoLesserWidth(t *testing.T) {
	for x, all := range lists() {
		for _, l := range all {
			for _, at := range []int{300, 307} {
				_, v := put(t, filler(at), mostBytes, x, l...)
				if v.Width > 1 && fitsAt(at, v.Width/2, x, l) {
					t.Errorf("with %d bytes, Put(%d, %d, %s) has the width %d", at, x.elem, x.many, show(l...), v.Width)
				}
			}
		}
	}
}

// P17.4: the bytes 00 before a vector count, and an offset at the border decides the width.
func TestBorders(t *testing.T) {
	borders := []struct{ at, n, many, w int }{
		{254, 0, 1, 1}, {255, 0, 1, 2}, {254, 0, 2, 2}, {255, 1, 1, 1}, {250, 0, 5, 1}, {250, 0, 6, 2},
		{65532, 0, 1, 2}, {65533, 0, 1, 4}, {65532, 0, 2, 4}, {65533, 1, 1, 2}, {65534, 0, 1, 4}, {65534, 1, 1, 2}, {65535, 2, 1, 4}, {65535, 3, 1, 2},
	}
	for _, c := range borders {
		for _, x := range []shape{untyped, {4, 0}} {
			if _, v := put(t, filler(c.at), mostBytes, x, repeat(c.many, k(c.n))...); v.Width != c.w {
				t.Errorf("with %d bytes, the width of %d keys at %d is %d; want %d", c.at, c.many, c.n, v.Width, c.w)
			}
		}
	}
}

// written is a vector in a buffer, with its encoding.
type written struct {
	x     shape
	l     []api.Value
	value api.Value
	from  int
	to    int
}

// appendVector writes a vector and keeps note of where it is.
func appendVector(t *testing.T, b *buf.Buf, x shape, l ...api.Value) written {
	t.Helper()
	from := b.Len()
	v, e := vec.Put(b, x.elem, x.many, l...)
	if e != 0 {
		t.Fatalf("Put(%d, %d, %s) = %d", x.elem, x.many, show(l...), e)
	}
	return written{x, l, v, from, b.Len()}
}

// P17.5: two vectors of any forms do not overlap, and an untyped one can contain the one before it.
func TestTwoVectors(t *testing.T) {
	all := lists()
	for _, x := range shapes {
		for _, first := range all[x][:min(len(all[x]), 12)] {
			for _, y := range shapes {
				for _, second := range all[y][:min(len(all[y]), 12)] {
					b := holding(filler(301), mostBytes)
					one := appendVector(t, b, x, first...)
					two := appendVector(t, b, y, second...)
					three := appendVector(t, b, untyped, two.value, one.value, two.value)
					staysApart(t, b, one, two, three)
				}
			}
		}
	}
}

// staysApart checks that vectors read back from ranges of bytes that follow one another.
func staysApart(t *testing.T, b *buf.Buf, l ...written) {
	t.Helper()
	contents, _ := b.Bytes()
	last := 0
	for _, w := range l {
		if w.from < last || int(w.value.N) < w.from || w.to < int(w.value.N) {
			t.Fatalf("Put(%d, %d, %s) is from %d to %d, behind %d", w.x.elem, w.x.many, show(w.l...), w.from, w.to, last)
		}
		if want := encoding(w.from, w.value.Width, w.x, w.l); string(contents[w.from:w.to]) != want {
			t.Fatalf("Put(%d, %d, %s) has become %s", w.x.elem, w.x.many, show(w.l...), digits(contents[:w.to], w.from))
		}
		readsAs(t, contents[:w.to], w.value, w.x, w.l)
		last = w.to
	}
}

// P17.5: vectors that contain one another are read from the last one down to the first one.
func TestNested(t *testing.T) {
	for _, w := range ordered {
		b := holding("a", mostBytes)
		chain := []written{appendVector(t, b, untyped, i(5, w))}
		for range 300 {
			before := chain[len(chain)-1].value
			chain = append(chain, appendVector(t, b, untyped, i(7, 1), before, s(0)))
		}
		staysApart(t, b, chain...)
		contents, _ := b.Bytes()
		v := chain[len(chain)-1].value
		for n := len(chain) - 1; n > 0; n-- {
			r := readBack(contents, v, 0)
			v = api.Value{Type: int(r.tags[1] / 4), Width: ordered[r.tags[1]%4], N: uint64(r.at[1]) - r.nums[1]}
			if v != chain[n-1].value {
				t.Fatalf("the vector %d contains %v; want %v", n, v, chain[n-1].value)
			}
		}
		if r := readBack(contents, v, 0); r.length != 1 || r.nums[0] != 5 {
			t.Errorf("the innermost vector reads as %v", r)
		}
	}
}
