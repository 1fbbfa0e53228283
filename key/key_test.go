package key_test

import (
	"slices"
	"strconv"
	"strings"
	"testing"

	"accordion/api"
	"accordion/key"
)

// words holds all strings of up to n bytes of an alphabet, the empty one among them.
func words(alphabet string, n int) []string {
	l := []string{""}
	for from := 0; n > 0; n-- {
		to := len(l)
		for _, w := range l[from:to] {
			for i := range len(alphabet) {
				l = append(l, w+alphabet[i:i+1])
			}
		}
		from = to
	}
	return l
}

// eachList calls use with all lists of up to n elements of a list of keys.
func eachList(keys []string, n int, use func(l []string)) {
	var extend func(l []string)
	extend = func(l []string) {
		use(l)
		if len(l) == n {
			return
		}
		for _, k := range keys {
			extend(append(slices.Clone(l), k))
		}
	}
	extend(nil)
}

// shuffled holds n distinct keys that are not in order: numbers in decimal, of several lengths.
func shuffled(n int) []string {
	const prime = 1000003
	l := make([]string, n)
	for i := range l {
		l[i] = strconv.Itoa((i + 1) * 7919 % prime)
	}
	return l
}

// increasing holds n keys in order, so that there is room before, between and after them.
func increasing(n int) []string {
	l := make([]string, n)
	for i := range l {
		l[i] = "k" + strconv.Itoa(100000+i)
	}
	return l
}

func checkCheck(t *testing.T, s string, want api.Errno) {
	t.Helper()
	if e := key.Check(s); e != want {
		t.Errorf("Check(%q) = %d; want %d", s, e, want)
	}
}

func checkLess(t *testing.T, a, b string, want bool) {
	t.Helper()
	if is := key.Less(a, b); is != want {
		t.Errorf("Less(%q, %q) = %t; want %t", a, b, is, want)
	}
}

func checkOrder(t *testing.T, l []string, want []int, wantE api.Errno) {
	t.Helper()
	if order, e := key.Order(l); !slices.Equal(order, want) || e != wantE {
		t.Errorf("Order(%q) = %v, %d; want %v, %d", l, order, e, want, wantE)
	}
}

func checkFind(t *testing.T, l []string, k string, want int, wantIs bool) {
	t.Helper()
	if i, is := key.Find(l, k); i != want || is != wantIs {
		t.Errorf("Find(%q, %q) = %d, %t; want %d, %t", l, k, i, is, want, wantIs)
	}
}

// The table of the chapter's section 'Examples', except for Sorted.
func TestExamples(t *testing.T) {
	checkCheck(t, "a", api.OK)
	checkCheck(t, "", api.OK)
	checkCheck(t, "a\x00", api.ErrKey)
	checkLess(t, "a", "ab", true)
	checkLess(t, "ab", "b", true)
	checkLess(t, "z", "\xc3\xa9", true)
	checkLess(t, "a", "a", false)
	checkOrder(t, []string{"b", "a", "", "ab"}, []int{2, 1, 3, 0}, api.OK)
	checkOrder(t, []string{"a", "b", "a"}, nil, api.ErrTwice)
	checkOrder(t, []string{}, nil, api.OK)
	checkFind(t, []string{"a", "c", "e"}, "c", 1, true)
	checkFind(t, []string{"a", "c", "e"}, "d", 0, false)
	checkFind(t, []string{"c", "a", "b"}, "c", 0, false)
	checkFind(t, []string{"c", "a", "b"}, "b", 2, true)
	checkFind(t, []string{"c", "a", "b"}, "a", 0, false)
}

// P7.1: every byte, alone and at every place of a key; no other byte than 00 is refused, valid UTF-8 or not.
func TestCheck(t *testing.T) {
	for b := range 256 {
		want := api.OK
		if b == 0 {
			want = api.ErrKey
		}
		s := string([]byte{byte(b)})
		for n := range 10 {
			for at := range n + 1 {
				checkCheck(t, strings.Repeat("x", at)+s+strings.Repeat("\xff", n-at), want)
			}
		}
	}
	long := strings.Repeat("long", 1<<18)
	checkCheck(t, long, api.OK)
	checkCheck(t, long+"\x00", api.ErrKey)
	checkCheck(t, "\x00"+long, api.ErrKey)
	checkCheck(t, "0\\0\\x00\u0100", api.OK)
	checkCheck(t, "\x00\x00", api.ErrKey)
}

// P7.1: all pairs of short strings, with bytes from both ends of the range.
func TestLess(t *testing.T) {
	l := words("\x00\x01aA\x7f\x80\xff", 3)
	for _, a := range l {
		for _, b := range l {
			checkLess(t, a, b, wantLess(a, b))
		}
	}
}

// P7.1: every pair of bytes, behind a common prefix and before a rest that says the opposite.
func TestLessOfBytes(t *testing.T) {
	for _, prefix := range []string{"", "p", "\xff\x00\xff", strings.Repeat("prefix", 100)} {
		for x := range 256 {
			for y := range 256 {
				a, b := prefix+string([]byte{byte(x)}), prefix+string([]byte{byte(y)})
				checkLess(t, a, b, x < y)
				if x != y {
					checkLess(t, a+"z", b+"a", x < y)
					checkLess(t, a, b+"\x00", x < y)
					checkLess(t, a+"\xff\xff", b, x < y)
				}
			}
		}
	}
}

// P7.1: the order is that of bytes, not that of letters, lengths or numbers.
func TestLessIsBytewise(t *testing.T) {
	increasing := []string{"", "\x00", "\x01", "\n", " ", "\"", "-1", "0", "00", "10", "2", "9", "A", "Z", "Za", "\\", "a", "a\x00", "a\x01", "aa", "b", "z", "~", "\x7f", "\x80", "\xc2\x80", "\u00e9", "\ud7ff", "\ue000", "\ufffd", "\U00010000", "\U0010ffff", "\xff", "\xff\xff"}
	for i, a := range increasing {
		for j, b := range increasing {
			checkLess(t, a, b, i < j)
		}
	}
}

// P7.2: all lists of a few keys, in every order and with every repetition.
func TestOrder(t *testing.T) {
	for _, keys := range [][]string{{"", "a", "ab", "b", "\xc3\xa9"}, {"\x00", "\x00\x00", "", "\xff", "\x7f"}} {
		eachList(keys, 6, func(l []string) {
			want, wantE := wantOrder(l)
			checkOrder(t, l, want, wantE)
		})
	}
}

// P7.2: each index once, also in long lists, in order and in reverse.
func TestOrderOfLongLists(t *testing.T) {
	for _, n := range []int{7, 11, 12, 13, 20, 49, 50, 51, 100, 300, 1000} {
		l := shuffled(n)
		want, _ := wantOrder(l)
		checkOrder(t, l, want, api.OK)
		slices.Sort(l)
		want, _ = wantOrder(l)
		checkOrder(t, l, want, api.OK)
		slices.Reverse(l)
		want, _ = wantOrder(l)
		checkOrder(t, l, want, api.OK)
	}
	const many = 200000
	l := shuffled(many)
	order, e := key.Order(l)
	if len(order) != many || e != api.OK {
		t.Fatalf("Order of %d keys has %d indices, %d", many, len(order), e)
	}
	for i := 1; i < many; i++ {
		if !wantLess(l[order[i-1]], l[order[i]]) {
			t.Fatalf("Order of %d keys: place %d", many, i)
		}
	}
}

// P7.2: two equal keys at any two places, in lists of many lengths.
func TestOrderOfEqualKeys(t *testing.T) {
	for _, n := range []int{2, 3, 10, 13, 40, 70} {
		for i := range n {
			for j := range i {
				l := shuffled(n)
				l[i] = strings.Clone(l[j])
				checkOrder(t, l, nil, api.ErrTwice)
			}
		}
	}
	l := shuffled(50000)
	l[49999] = l[123]
	if order, e := key.Order(l); len(order) != 0 || e != api.ErrTwice {
		t.Errorf("Order of a long list with two equal keys has %d indices, %d", len(order), e)
	}
}

// P7.3: all lists of a few keys, increasing or not, with repetitions; keys that are in the list and keys that are not.
func TestFind(t *testing.T) {
	keys := []string{"", "a", "ab", "b", "\xff"}
	others := append([]string{"\x00", "aa", "a\x00", "abc", "B", "\xfe", "\xff\x00"}, keys...)
	eachList(keys, 6, func(l []string) {
		for _, k := range others {
			want, is := wantFind(l, k)
			checkFind(t, l, k, want, is)
		}
	})
}

// P7.3: long lists that are not increasing.
func TestFindInDisorder(t *testing.T) {
	for n := range 130 {
		l := shuffled(n)
		for _, k := range l {
			want, is := wantFind(l, k)
			checkFind(t, l, k, want, is)
		}
		same := slices.Repeat([]string{"b"}, n)
		checkFind(t, same, "b", 0, n > 0)
		checkFind(t, same, "a", 0, false)
		checkFind(t, same, "c", 0, false)
	}
}

// P7.5: lists are only read, and their capacity is left alone.
func TestListsAreKept(t *testing.T) {
	whole := append(shuffled(100), "d", "a", "c", "a")
	before := slices.Clone(whole)
	for n := range whole {
		l := whole[:n]
		key.Order(l)
		key.Find(l, "5")
		if !slices.Equal(whole, before) {
			t.Fatalf("a list of %d keys has changed", n)
		}
	}
}

// P7.5: a result of Order may be changed without effect on the next one.
func TestOrdersAreNewMemory(t *testing.T) {
	l := shuffled(20)
	a, _ := key.Order(l)
	b, _ := key.Order(l)
	want := slices.Clone(b)
	for i := range a {
		a[i] = -1
	}
	if !slices.Equal(b, want) {
		t.Error("a change of one result shows in another")
	}
	checkOrder(t, l, want, api.OK)
}

// P7.6: irreflexive, transitive, and for two different keys exactly one of them is less.
func TestLessIsStrictTotalOrder(t *testing.T) {
	l := append(words("\x00a\xff", 3), "\u00e9", "z", "aaaaaaaaaaaaaaaa", "aaaaaaaaaaaaaaab")
	for _, a := range l {
		checkLess(t, a, strings.Clone(a), false)
		for _, b := range l {
			if a != b && key.Less(a, b) == key.Less(b, a) {
				t.Errorf("%q and %q are not ordered", a, b)
			}
			for _, c := range l {
				if key.Less(a, b) && key.Less(b, c) && !key.Less(a, c) {
					t.Errorf("%q, %q, %q: not transitive", a, b, c)
				}
			}
		}
	}
}

// P7.7: in increasing lists of every length, every element and nothing before, between and after them.
func TestFindInIncreasingLists(t *testing.T) {
	for _, n := range []int{0, 1, 2, 3, 4, 5, 6, 7, 8, 9, 15, 16, 17, 31, 32, 33, 100, 255, 256, 257, 1000} {
		l := increasing(n)
		for i, k := range l {
			checkFind(t, l, k, i, true)
			checkFind(t, l, k[:len(k)-1], 0, false)
			checkFind(t, l, k+"\x00", 0, false)
			checkFind(t, l, k+"0", 0, false)
		}
		for _, k := range []string{"", "k", "j", "l", "\xff"} {
			checkFind(t, l, k, 0, false)
		}
	}
	l := words("ab", 4)
	slices.Sort(l)
	for _, k := range words("abc", 5) {
		i := slices.Index(l, k)
		checkFind(t, l, k, max(i, 0), i >= 0)
	}
}

// P7.7: the order found by Order makes a list in which Find finds everything.
func TestFindAfterOrder(t *testing.T) {
	l := shuffled(500)
	order, _ := key.Order(l)
	sorted := make([]string, len(l))
	for to, from := range order {
		sorted[to] = l[from]
	}
	for to, from := range order {
		checkFind(t, sorted, l[from], to, true)
	}
}
