package pool_test

import (
	"math"
	"slices"
	"strconv"
	"strings"
	"testing"

	"accordion/api"
	"accordion/pool"
)

// odd holds strings of any bytes, many of which differ from another one in their last byte, in their length or in a byte 00 only.
var odd = []string{
	"", "\x00", "\x00\x00", "\x00a", "a", "a\x00", "a\x00b", "aa", "ab", "A", "b", "ba", "z", "\x7f", "\x80", "\xff", "\xff\x00", "\xff\xff",
	"\u00e9", "e\u0301", "\u20ac", "\U0001f600", "\xc3", "\xed\xa0\x80", "10", "9", " ", "a ", "\n",
	strings.Repeat("x", 1000), strings.Repeat("x", 999) + "y", strings.Repeat("x", 1001), strings.Repeat("\xff", 300),
}

// inside holds numbers that a string can have, outside numbers that it cannot have; some of these would pass for others if they lost their upper bits.
var (
	inside  = []int{0, 1, 2, 255, 256, 1<<31 - 1, 1 << 31, 1<<32 - 1, 1 << 32, 1<<52 + 1, 1<<53 - 2, 1<<53 - 1}
	outside = []int{-1, -2, -256, -1 << 31, -1 << 32, -1<<53 + 1, -1 << 53, math.MinInt, math.MinInt + 1, 1 << 53, 1<<53 + 1, 1 << 54, 1<<54 - 1, 1 << 62, math.MaxInt - 1, math.MaxInt}
)

// shuffled holds n distinct strings that are not in order: numbers in decimal, of several lengths.
func shuffled(n int) []string {
	const prime = 1000003
	l := make([]string, n)
	for i := range l {
		l[i] = strconv.Itoa((i + 1) * 7919 % prime)
	}
	return l
}

// filled holds the strings of a list, each with its index as the number.
func filled(t *testing.T, l []string) *pool.Pool {
	t.Helper()
	p := pool.New()
	for i, k := range l {
		puts(t, p, k, i, api.OK)
	}
	return p
}

func puts(t *testing.T, p *pool.Pool, k string, at int, want api.Errno) {
	t.Helper()
	if e := p.Put(k, at); e != want {
		t.Errorf("Put(%s, %d): %d, want %d", brief(k), at, e, want)
	}
}

func gets(t *testing.T, p *pool.Pool, k string, want int, wantIs bool) {
	t.Helper()
	if at, is := p.Get(k); at != want || is != wantIs {
		t.Errorf("Get(%s): %d, %t; want %d, %t", brief(k), at, is, want, wantIs)
	}
}

// eachOrder calls use with all orders of a list.
func eachOrder(l []string, use func(order []string)) {
	var extend func(order, rest []string)
	extend = func(order, rest []string) {
		if len(rest) == 0 {
			use(order)
		}
		for i, k := range rest {
			extend(append(slices.Clone(order), k), slices.Concat(rest[:i], rest[i+1:]))
		}
	}
	extend(nil, l)
}

// The table of the chapter's section 'Examples'.
func TestExamples(t *testing.T) {
	p := pool.New()
	puts(t, p, "b", 5, api.OK)
	puts(t, p, "a", 9, api.OK)
	puts(t, p, "", 0, api.OK)
	lists(t, "Put", p, "", "a", "b")

	puts(t, p, "a", 1, api.ErrTwice)
	puts(t, p, "c", -1, api.ErrArg)
	gets(t, p, "a", 9, true)
	gets(t, p, "c", 0, false)
	if n := p.Len(); n != 3 {
		t.Errorf("Len: %d", n)
	}
}

// P15.1: a new pool is empty, also after other pools have been filled, and each is a pool of its own.
func TestNew(t *testing.T) {
	p := pool.New()
	holds(t, "New", p, model{}, odd)
	puts(t, p, "a", 5, api.OK)
	other := pool.New()
	holds(t, "New", other, model{}, odd)
	puts(t, other, "a", 7, api.OK)
	puts(t, other, "b", 8, api.OK)
	holds(t, "Put", p, model{"a": 5}, odd)
	holds(t, "Put", other, model{"a": 7, "b": 8}, odd)
}

// P15.1: every number from 0 to 2^53 - 1 is put, and no other; strings may have equal numbers, and a string that was refused can still be put.
func TestNumbers(t *testing.T) {
	for _, n := range inside {
		run(t, odd, call{"a", n}, call{"b", n}, call{"a", n}, call{"", n})
	}
	for _, n := range outside {
		p := pool.New()
		puts(t, p, "a", n, api.ErrArg)
		holds(t, "ErrArg", p, model{}, odd)
		for _, m := range inside {
			run(t, odd, call{"a", n}, call{"a", m}, call{"", n}, call{"b", n}, call{"b", m})
		}
	}
}

// P15.1: of the errors of Put, ErrNil is the first and ErrTwice is the last.
func TestOrderOfErrors(t *testing.T) {
	p := filled(t, []string{"b", "a"})
	for _, n := range outside {
		puts(t, p, "a", n, api.ErrArg)
		puts(t, p, "c", n, api.ErrArg)
	}
	for _, n := range inside {
		puts(t, p, "a", n, api.ErrTwice)
		puts(t, p, "b", n, api.ErrTwice)
	}
	holds(t, "errors", p, model{"b": 0, "a": 1}, odd)
}

// P15.1, P15.2: a nil pool and a zero one contain nothing, and a zero one stays as it is.
func TestNilAndZero(t *testing.T) {
	for _, p := range []*pool.Pool{nil, {}, new(pool.Pool)} {
		for _, n := range slices.Concat(inside, outside) {
			for _, k := range []string{"a", "", "a"} {
				puts(t, p, k, n, api.ErrNil)
				gets(t, p, k, 0, false)
			}
			lists(t, "Put", p)
		}
		holds(t, "Put", p, model{}, odd)
	}
}

// P15.1, P15.2: strings of any bytes are compared by all of their bytes, in whatever order they come.
func TestAnyBytes(t *testing.T) {
	var l, backward []call
	for i, k := range odd {
		l = append(l, call{k, 1000 + i})
	}
	for _, c := range slices.Backward(l) {
		backward = append(backward, c)
	}
	run(t, []string{"x", "c", "a\x00c", "\xfe"}, append(l, l...)...)
	run(t, []string{"x", "c", "a\x00c", "\xfe"}, append(backward, l...)...)

	var bytes []call
	for b := range 256 {
		bytes = append(bytes, call{string([]byte{byte(b * 37)}), b})
	}
	run(t, odd, bytes...)
}

// P15.1, P15.2: any two strings, put in both orders.
func TestPairs(t *testing.T) {
	for _, a := range odd {
		for _, b := range odd {
			run(t, odd, call{a, 3}, call{b, 4})
		}
	}
}

// P15.2, P15.4: equal strings are the same string, wherever their bytes are.
func TestEqualStrings(t *testing.T) {
	p := pool.New()
	for i, k := range odd {
		puts(t, p, k, i, api.OK)
		puts(t, p, strings.Clone(k), i+1, api.ErrTwice)
		gets(t, p, strings.Clone(k), i, true)
		gets(t, p, ("<" + k + ">")[1:len(k)+1], i, true)
	}
}

// P15.2, P15.4: each place of lists of many lengths, and every place between two neighbours, before the first string and behind the last one.
func TestSearch(t *testing.T) {
	for n := range 40 {
		l := make([]string, n)
		for i := range l {
			l[i] = string([]byte{byte(2*i + 2)})
		}
		asked := []string{""}
		for b := range 2*n + 4 {
			asked = append(asked, string([]byte{byte(b)}), string([]byte{byte(b), 0}))
		}
		for _, k := range asked {
			p, m := filled(t, l), model{}
			for i, k := range l {
				m[k] = i
			}
			holds(t, "putting in order", p, m, []string{k})
			puts(t, p, k, 77, m.put(k, 77))
			holds(t, "Put("+brief(k)+", 77)", p, m, asked)
		}
	}
}

// P15.3, P15.4: all sequences of four calls are as the model.
func TestSequences(t *testing.T) {
	l := []call{{"", 0}, {"", 3}, {"a", 1}, {"a", 0}, {"b", 0}, {"b", most}, {"b", most + 1}, {"ab", 2}, {"a\x00", 4}, {"c", -1}, {"\xff", 5}}
	others := []string{"c", "a\x00\x00", "B", "\xfe"}
	for _, first := range l {
		for _, second := range l {
			for _, third := range l {
				for _, fourth := range l {
					run(t, others, first, second, third, fourth)
				}
			}
		}
	}
}

// P15.4, P15.5: strings put in all orders have the same list and keep their numbers.
func TestOrders(t *testing.T) {
	sorted := []string{"", "\x00", "a", "a\x00", "ab", "b", "\xff"}
	eachOrder(sorted, func(order []string) {
		p := filled(t, order)
		lists(t, "Put of "+show(order), p, sorted...)
		for i, k := range order {
			gets(t, p, k, i, true)
		}
		gets(t, p, "aa", 0, false)
	})
}

// P15.4, P15.5: many strings, from the least to the greatest, the other way round, and mixed.
func TestMany(t *testing.T) {
	const many = 20000
	mixed := shuffled(many)
	sorted := slices.SortedFunc(slices.Values(mixed), func(a, b string) int {
		if wantLess(a, b) {
			return -1
		}
		return 1
	})
	backward := slices.Clone(sorted)
	slices.Reverse(backward)
	for _, l := range [][]string{mixed, sorted, backward} {
		p := filled(t, l)
		lists(t, "putting many", p, sorted...)
		for i, k := range l {
			gets(t, p, k, i, true)
			gets(t, p, k+"x", 0, false)
			puts(t, p, k, i, api.ErrTwice)
		}
		lists(t, "putting many again", p, sorted...)
	}
}

// P15.4: a number stays as it is while other strings are put before and behind its string, and calls fail.
func TestNumbersStay(t *testing.T) {
	p, m := pool.New(), model{}
	for i, k := range shuffled(200) {
		at := (i*977 + 5) % 1009
		puts(t, p, k, at, api.OK)
		m[k] = at
		puts(t, p, k, at+1, api.ErrTwice)
		puts(t, p, k, -1, api.ErrArg)
		puts(t, p, k+"-", most+1, api.ErrArg)
		for k, want := range m {
			gets(t, p, k, want, true)
		}
	}
	holds(t, "putting", p, m, shuffled(300))
}

// P15.3: a change of a list, or of its unused capacity, does not change the pool, and later calls do not change the list.
func TestResultsAreNew(t *testing.T) {
	for n := range 20 {
		l := shuffled(n)
		p, m := filled(t, l), model{}
		for i, k := range l {
			m[k] = i
		}
		first, second := p.List(), p.List()
		before := slices.Clone(second)
		overwrite(first)
		holds(t, "a change of the result", p, m, l)
		puts(t, p, "", n, api.OK)
		puts(t, p, "x", n+1, api.OK)
		if !slices.Equal(second, before) {
			t.Errorf("a result has changed with the pool: %s; want %s", show(second), show(before))
		}
		overwrite(second)
		m[""], m["x"] = n, n+1
		holds(t, "a change of the result", p, m, l)
	}
}

// overwrite changes a list and all of its unused capacity.
func overwrite(l []string) {
	l = l[:cap(l)]
	for i := range l {
		l[i] = "overwritten"
	}
}

// P15.3: Get, Len and List change nothing, and neither does a failing Put.
func TestReadingChangesNothing(t *testing.T) {
	p, m := pool.New(), model{}
	for i, k := range odd {
		for range 3 {
			holds(t, "reading", p, m, odd)
			puts(t, p, k, -1-i, api.ErrArg)
		}
		puts(t, p, k, i, api.OK)
		m[k] = i
		for _, k := range odd[:i+1] {
			puts(t, p, k, i+100, api.ErrTwice)
		}
	}
	holds(t, "reading", p, m, odd)
}
