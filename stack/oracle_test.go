package stack_test

import (
	"slices"
	"strconv"
	"strings"
	"testing"

	"accordion/api"
	"accordion/stack"
)

// The model follows the chapter, with its own numbers; of the program it uses only the types of values and error numbers.

const (
	errNil   = 1
	errLimit = 5
	errState = 140
)

const most = 65536

// model is a stack whose values are linked from the top downwards, so that no two states of it share what can change.
type model struct {
	top    *link
	number int
}

type link struct {
	value api.Value
	below *link
}

// push is P14.1.
func (m *model) push(l []api.Value) api.Errno {
	if m.number+len(l) > most {
		return errLimit
	}
	for _, v := range l {
		m.top = &link{v, m.top}
		m.number++
	}
	return 0
}

// last returns the last n values as they were pushed.
func (m *model) last(n int) []api.Value {
	var l []api.Value
	for at := m.top; len(l) < n; at = at.below {
		l = append(l, at.value)
	}
	slices.Reverse(l)
	return l
}

// pop is P14.2.
func (m *model) pop(n int) ([]api.Value, api.Errno) {
	if n < 0 || n > m.number {
		return nil, errState
	}
	l := m.last(n)
	for range l {
		m.top = m.top.below
		m.number--
	}
	return l, 0
}

// from is P14.2.
func (m *model) from(start int) ([]api.Value, api.Errno) {
	if start < 0 || start > m.number {
		return nil, errState
	}
	return m.last(m.number - start), 0
}

// call is a call of a method, made on a stack and on the model.
type call struct {
	name string
	on   func(s *stack.Stack) ([]api.Value, api.Errno)
	want func(m *model) ([]api.Value, api.Errno)
}

func push(l ...api.Value) call {
	return call{
		"Push(" + show(l) + ")",
		func(s *stack.Stack) ([]api.Value, api.Errno) { return nil, s.Push(l...) },
		func(m *model) ([]api.Value, api.Errno) { return nil, m.push(l) },
	}
}

func pop(n int) call {
	return call{
		"Pop(" + strconv.Itoa(n) + ")",
		func(s *stack.Stack) ([]api.Value, api.Errno) { return s.Pop(n) },
		func(m *model) ([]api.Value, api.Errno) { return m.pop(n) },
	}
}

func from(start int) call {
	return call{
		"From(" + strconv.Itoa(start) + ")",
		func(s *stack.Stack) ([]api.Value, api.Errno) { return s.From(start) },
		func(m *model) ([]api.Value, api.Errno) { return m.from(start) },
	}
}

// run makes the calls one after the other on a new stack and on the model, and compares the results and the stacks after each call.
func run(t *testing.T, l ...call) {
	t.Helper()
	s, m := stack.New(), &model{}
	holds(t, "New", s, nil)
	for i, c := range l {
		got, gotE := c.on(s)
		want, wantE := c.want(m)
		if !slices.Equal(got, want) || gotE != wantE {
			t.Errorf("%s: %s, %d; want %s, %d", names(l[:i+1]), show(got), gotE, show(want), wantE)
		}
		holds(t, names(l[:i+1]), s, m.last(m.number))
	}
}

// holds checks that a stack holds exactly these values.
func holds(t *testing.T, after string, s *stack.Stack, want []api.Value) {
	t.Helper()
	if n := s.Len(); n != len(want) {
		t.Errorf("after %s: Len %d, want %d", after, n, len(want))
	}
	if got, e := s.From(0); !slices.Equal(got, want) || e != 0 {
		t.Errorf("after %s: From(0) is %s, %d; want %s", after, show(got), e, show(want))
	}
	if got, e := s.From(len(want)); len(got) != 0 || e != 0 {
		t.Errorf("after %s: From(%d) is %s, %d; want nothing", after, len(want), show(got), e)
	}
	if got, e := s.From(len(want) + 1); len(got) != 0 || e != errState {
		t.Errorf("after %s: From(%d) is %s, %d; want ErrState", after, len(want)+1, show(got), e)
	}
}

// show shortens a list of values for a message.
func show(l []api.Value) string {
	var s []string
	for _, v := range l[:min(len(l), 8)] {
		s = append(s, strconv.Itoa(v.Type)+":"+strconv.Itoa(v.Width)+":"+strconv.FormatUint(v.N, 10))
	}
	if len(l) > 8 {
		s = append(s, ".. ("+strconv.Itoa(len(l))+" values)")
	}
	return strings.Join(s, " ")
}

func names(l []call) string {
	var s []string
	for _, c := range l {
		s = append(s, c.name)
	}
	return strings.Join(s, ", ")
}
