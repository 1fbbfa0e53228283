package stack_test

import (
	"math"
	"slices"
	"testing"

	"accordion/api"
	"accordion/stack"
)

var (
	a = api.Value{Type: api.TInt, Width: 1, N: 5}
	b = api.Value{Type: api.TStr, Width: 2, N: 300}
	c = api.Value{Type: api.TVec, Width: 8, N: 7}
)

// odd holds values that nothing built has, because in this layer values are arbitrary, and some that differ in one field only.
var odd = []api.Value{
	{}, {Type: 1}, {Width: 1}, {N: 1}, {Type: 3, Width: 3, N: 3}, {Type: -1, Width: -1, N: math.MaxUint64},
	{Type: math.MinInt, Width: math.MaxInt, N: 1 << 63}, {Type: math.MaxInt, Width: math.MinInt, N: 0}, {Type: 5, Width: 2, N: 300}, {Type: 5, Width: 2, N: 300 + 1<<32},
}

// far holds numbers that are no length and no index of any stack, some of which would be if they lost their upper bits or overflowed.
var far = []int{math.MinInt, math.MinInt + 1, math.MinInt + 3, -1 << 32, -1<<32 + 2, -most, -most - 1, most + 1, 1 << 17, 1 << 32, 1<<32 + 2, math.MaxInt - 2, math.MaxInt}

// many returns n values that all differ.
func many(n int) []api.Value {
	l := make([]api.Value, n)
	for i := range l {
		l[i] = api.Value{Type: i % 37, Width: 1 << (i % 4), N: uint64(i) + 1000}
	}
	return l
}

func filled(t *testing.T, l []api.Value) *stack.Stack {
	t.Helper()
	s := stack.New()
	pushes(t, s, api.OK, l...)
	return s
}

func pushes(t *testing.T, s *stack.Stack, want api.Errno, l ...api.Value) {
	t.Helper()
	if e := s.Push(l...); e != want {
		t.Errorf("Push(%s): %d, want %d", show(l), e, want)
	}
}

func pops(t *testing.T, s *stack.Stack, n int, want api.Errno, l ...api.Value) {
	t.Helper()
	if got, e := s.Pop(n); !slices.Equal(got, l) || e != want {
		t.Errorf("Pop(%d): %s, %d; want %s, %d", n, show(got), e, show(l), want)
	}
}

func gives(t *testing.T, s *stack.Stack, start int, want api.Errno, l ...api.Value) {
	t.Helper()
	if got, e := s.From(start); !slices.Equal(got, l) || e != want {
		t.Errorf("From(%d): %s, %d; want %s, %d", start, show(got), e, show(l), want)
	}
}

func counts(t *testing.T, s *stack.Stack, want int) {
	t.Helper()
	if n := s.Len(); n != want {
		t.Errorf("Len: %d, want %d", n, want)
	}
}

// The table of the chapter's section 'Examples'.
func TestExamples(t *testing.T) {
	s := stack.New()
	pushes(t, s, api.OK, a, b)
	pushes(t, s, api.OK, c)
	counts(t, s, 3)
	gives(t, s, 1, api.OK, b, c)

	pops(t, s, 2, api.OK, b, c)
	pops(t, s, 2, api.ErrState)
	counts(t, s, 1)
	gives(t, s, 2, api.ErrState)
	gives(t, s, 1, api.OK)

	pushes(t, s, api.OK)
	pops(t, s, 0, api.OK)
	pops(t, s, -1, api.ErrState)
	pops(t, s, 1, api.OK, a)
	counts(t, s, 0)
}

// P14.1: a new stack is empty, also after other stacks have been filled, and each is a stack of its own.
func TestNew(t *testing.T) {
	s := stack.New()
	holds(t, "New", s, nil)
	pushes(t, s, api.OK, a, b)
	other := stack.New()
	holds(t, "New", other, nil)
	pushes(t, other, api.OK, c)
	pops(t, s, 1, api.OK, b)
	holds(t, "Pop", s, []api.Value{a})
	holds(t, "Pop of another stack", other, []api.Value{c})
}

// P14.1: values are appended in order, however they are distributed among calls, whatever they are, equal ones included.
func TestPush(t *testing.T) {
	run(t, push(), push(a), push(), push(b, c), push(a, a, a), push(c, b, a))
	run(t, push(odd...), push(odd...), push(odd[3]))
	for _, v := range odd {
		run(t, push(v), push(v, a), push(b, v, v))
	}
	run(t, push(many(1000)...), push(many(1)...), push(many(30000)...))
}

// P14.1: 65536 values are the most, at once or in parts; one more is refused together with all that are pushed with it.
func TestLimit(t *testing.T) {
	run(t, push(many(most)...), push(), push(a), push(many(most)...), from(most-2), from(most))
	run(t, push(many(most+1)...), push(a), push(many(most)...), push(many(most-1)...), push(b))
	run(t, push(many(most-1)...), push(a, b), push(a), push(b), push())
	run(t, push(many(40000)...), push(many(30000)...), push(many(most-40000)...), push(a))
	run(t, push(many(1<<17)...), push(many(1<<20)...), push(a, b))
	run(t, push(many(most)...), pop(1), push(a, b), push(a), push(b), pop(most), push(many(most)...), push(c))

	s := stack.New()
	all := many(most)
	for i, v := range all {
		pushes(t, s, api.OK, v)
		counts(t, s, i+1)
	}
	pushes(t, s, api.ErrLimit, a)
	holds(t, "pushing one by one", s, all)
}

// P14.2: Pop and From with every number around their range and far outside it.
func TestRange(t *testing.T) {
	for n := range 9 {
		l := many(n)
		for i := -10; i <= 20; i++ {
			run(t, push(l...), pop(i), pop(1), push(a, b))
			run(t, push(l...), from(i), pop(i), from(i))
			run(t, push(l...), push(odd...), pop(len(odd)), from(i), pop(i))
		}
		for _, i := range far {
			run(t, push(l...), pop(i), from(i), push(a), pop(n+i), from(n+i), pop(1))
		}
	}
	run(t, pop(0), from(0), pop(1), from(1), pop(-1), from(-1))
	full := many(most)
	for _, i := range append([]int{-1, 0, 1, 2, most - 1, most, most + 1}, far...) {
		run(t, push(full...), from(i), pop(i), from(i))
	}
}

// P14.2: an error comes without values, and errors do not stay.
func TestErrors(t *testing.T) {
	s := filled(t, []api.Value{a, b})
	for _, n := range append([]int{-1, 3}, far...) {
		if l, e := s.Pop(n); len(l) != 0 || e != api.ErrState {
			t.Errorf("Pop(%d): %s, %d", n, show(l), e)
		}
		if l, e := s.From(n); len(l) != 0 || e != api.ErrState {
			t.Errorf("From(%d): %s, %d", n, show(l), e)
		}
		holds(t, "an error", s, []api.Value{a, b})
	}
	pushes(t, s, api.ErrLimit, many(most-1)...)
	holds(t, "ErrLimit", s, []api.Value{a, b})
	pushes(t, s, api.OK, c)
	pops(t, s, 3, api.OK, a, b, c)
}

// P14.1, P14.2: on a nil or zero stack there is ErrNil before any other error, and a zero stack stays one.
func TestNilAndZero(t *testing.T) {
	for _, s := range []*stack.Stack{nil, {}, new(stack.Stack)} {
		for range 2 {
			counts(t, s, 0)
			pushes(t, s, api.ErrNil)
			pushes(t, s, api.ErrNil, a, b)
			pushes(t, s, api.ErrNil, many(most+1)...)
			for _, n := range append([]int{0, 1, 2, -1}, far...) {
				pops(t, s, n, api.ErrNil)
				gives(t, s, n, api.ErrNil)
			}
		}
	}
}

// P14.1: a stack that is empty again is not a zero one.
func TestEmptyAgain(t *testing.T) {
	s := filled(t, []api.Value{a, b})
	pops(t, s, 2, api.OK, a, b)
	holds(t, "Pop", s, nil)
	pops(t, s, 0, api.OK)
	pushes(t, s, api.OK)
	pops(t, s, 1, api.ErrState)
	pushes(t, s, api.OK, c)
	holds(t, "Push", s, []api.Value{c})
}

// P14.3: a list of values is neither changed, with its unused capacity, nor kept.
func TestArgumentsAreKept(t *testing.T) {
	whole := many(20)
	l := whole[:5]
	for _, s := range []*stack.Stack{nil, {}, stack.New(), filled(t, many(3)), filled(t, many(most-6)), filled(t, many(most-5)), filled(t, many(most-4))} {
		s.Push(l...)
		s.Push(c)
		s.Pop(1)
		s.Push(b, c)
		if !slices.Equal(whole, many(20)) {
			t.Fatalf("the argument has changed: %s", show(whole))
		}
		before, _ := s.From(0)
		overwrite(l)
		if after, _ := s.From(0); !slices.Equal(before, after) {
			t.Errorf("the stack has changed with the argument: %s, %s", show(before), show(after))
		}
		copy(whole, many(20))
	}
}

// overwrite changes a result and all of its unused capacity.
func overwrite(l []api.Value) {
	l = l[:cap(l)]
	for i := range l {
		l[i] = api.Value{Type: -7, Width: -7, N: 7}
	}
}

// P14.3: what Pop and From return is memory of its own, at every size of the stack and of the result.
func TestResultsAreNew(t *testing.T) {
	for n := range 20 {
		for start := range n + 1 {
			l := many(n)
			s := filled(t, l)
			first, _ := s.From(start)
			second, _ := s.From(start)
			overwrite(first)
			holds(t, "a change of the result of From", s, l)
			popped, _ := s.Pop(n - start)
			kept, _ := s.From(0)
			pushes(t, s, api.OK, odd...)
			overwrite(kept)
			if !slices.Equal(second, l[start:]) || !slices.Equal(popped, l[start:]) {
				t.Errorf("results have changed with the stack: %s; %s; want %s", show(second), show(popped), show(l[start:]))
			}
			overwrite(popped)
			overwrite(second)
			holds(t, "a change of the result of Pop", s, slices.Concat(l[:start], odd))
		}
	}
}

// P14.3: a result of Pop can be changed while the stack has not been used again.
func TestPoppedIsApart(t *testing.T) {
	s := filled(t, []api.Value{a, b, c})
	l, _ := s.Pop(2)
	overwrite(l)
	holds(t, "a change of the result", s, []api.Value{a})
	pushes(t, s, api.OK, l...)
	l[0] = c
	again, _ := s.From(1)
	if again[0].N != 7 || again[0].Type != -7 {
		t.Errorf("a pushed result has stayed connected: %s", show(again))
	}
}

// P14.4: values come back last in, first out, each once, also if pushes come in between.
func TestLastInFirstOut(t *testing.T) {
	l := many(2000)
	s := filled(t, l)
	for _, v := range slices.Backward(l) {
		pops(t, s, 1, api.OK, v)
	}
	pops(t, s, 1, api.ErrState)
	holds(t, "popping all", s, nil)

	var waiting []api.Value
	for i, v := range l {
		pushes(t, s, api.OK, v)
		waiting = append(waiting, v)
		for range i * 7 % 5 {
			if n := len(waiting); n > 0 {
				pops(t, s, 1, api.OK, waiting[n-1])
				waiting = waiting[:n-1]
			}
		}
		counts(t, s, len(waiting))
	}
	holds(t, "the last push", s, waiting)
}

// P14.5: pushing together is pushing one by one, for every division of a list into three parts.
func TestPushTogether(t *testing.T) {
	for n := range 13 {
		l := many(n)
		for i := range n + 1 {
			for j := i; j <= n; j++ {
				s := filled(t, odd[:3])
				pushes(t, s, api.OK, l[:i]...)
				for _, v := range l[i:j] {
					pushes(t, s, api.OK, v)
				}
				pushes(t, s, api.OK, l[j:]...)
				holds(t, "Push", s, slices.Concat(odd[:3], l))
			}
		}
	}
}

// P14.5: Pop(n) and Pop(m) are Pop(n + m), with the second result before the first one.
func TestPopTogether(t *testing.T) {
	for size := range 13 {
		l := many(size)
		for n := range size + 1 {
			for m := range size + 2 {
				s, other := filled(t, l), filled(t, l)
				first, e := s.Pop(n)
				if e != api.OK {
					t.Fatalf("Pop(%d) of %d values: %d", n, size, e)
				}
				second, e := s.Pop(m)
				both, otherE := other.Pop(n + m)
				if (e == api.OK) != (n+m <= size) || e != otherE {
					t.Errorf("Pop(%d), Pop(%d) of %d values: %d; Pop(%d): %d", n, m, size, e, n+m, otherE)
				}
				if e == api.OK && !slices.Equal(slices.Concat(second, first), both) {
					t.Errorf("Pop(%d), Pop(%d): %s, %s; Pop(%d): %s", n, m, show(first), show(second), n+m, show(both))
				}
			}
		}
	}
}

// someCalls holds calls some of which succeed and some of which fail, depending on what is on the stack.
func someCalls() []call {
	return []call{
		push(), push(a), push(b, c), push(odd...), pop(-1), pop(0), pop(1), pop(2), pop(3), pop(11), from(-1), from(0), from(1), from(2), from(12),
	}
}

// P14.1, P14.2, P14.4: all sequences of four calls are as the model.
func TestSequences(t *testing.T) {
	l := someCalls()
	for _, first := range l {
		for _, second := range l {
			for _, third := range l {
				for _, fourth := range l {
					run(t, first, second, third, fourth)
				}
			}
		}
	}
}

// P14.1, P14.2: a stack that is nearly full is as the model.
func TestNearlyFull(t *testing.T) {
	for _, next := range someCalls() {
		run(t, push(many(most-4)...), next, push(odd[:4]...), next)
	}
}
