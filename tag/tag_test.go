package tag_test

import (
	"math"
	"testing"

	"accordion/api"
	"accordion/tag"
)

// The tables below repeat the chapter's definitions with its own numbers, apart from the program's tables.

// types holds every type; the value tells whether it is inline.
var types = map[int]bool{
	0: true, 1: true, 2: true, 26: true,
	4: false, 5: false, 6: false, 7: false, 9: false, 10: false,
	11: false, 12: false, 14: false, 36: false,
	16: false, 17: false, 19: false, 20: false, 22: false, 23: false,
	25: false,
}

type elements struct{ elem, many int }

// vectors holds the elements of every typed and every fixed vector.
var vectors = map[int]elements{
	11: {1, 0}, 12: {2, 0}, 14: {4, 0}, 36: {26, 0},
	16: {1, 2}, 19: {1, 3}, 22: {1, 4},
	17: {2, 2}, 20: {2, 3}, 23: {2, 4},
}

// codes holds the code of every width.
var codes = map[int]int{1: 0, 2: 1, 4: 2, 8: 3}

// numbers holds all types with their neighbours, and numbers that would pass for types if they lost their upper bits, alone or multiplied by 4.
func numbers() []int {
	l := []int{math.MinInt, math.MinInt + 1, math.MaxInt - 1, math.MaxInt}
	for i := -300; i <= 300; i++ {
		l = append(l, i)
	}
	for _, shift := range []int{16, 30, 31, 32, 61, 62} {
		for i := -40; i <= 40; i++ {
			l = append(l, i+1<<shift, i-1<<shift)
		}
	}
	return l
}

func checkPack(t *testing.T, x, w int, want byte, wantErr api.Errno) {
	t.Helper()
	if c, e := tag.Pack(x, w); c != want || e != wantErr {
		t.Errorf("Pack(%d, %d) = %d, %d; want %d, %d", x, w, c, e, want, wantErr)
	}
}

func checkUnpack(t *testing.T, c byte, want, wantWidth int, wantErr api.Errno) {
	t.Helper()
	if x, w, e := tag.Unpack(c); x != want || w != wantWidth || e != wantErr {
		t.Errorf("Unpack(%d) = %d, %d, %d; want %d, %d, %d", c, x, w, e, want, wantWidth, wantErr)
	}
}

func checkLegal(t *testing.T, x int, want bool) {
	t.Helper()
	if is := tag.Legal(x); is != want {
		t.Errorf("Legal(%d) = %t; want %t", x, is, want)
	}
}

func checkInline(t *testing.T, x int, want bool) {
	t.Helper()
	if is := tag.Inline(x); is != want {
		t.Errorf("Inline(%d) = %t; want %t", x, is, want)
	}
}

func checkElem(t *testing.T, x, want, wantMany int, wantIs bool) {
	t.Helper()
	if elem, many, is := tag.Elem(x); elem != want || many != wantMany || is != wantIs {
		t.Errorf("Elem(%d) = %d, %d, %t; want %d, %d, %t", x, elem, many, is, want, wantMany, wantIs)
	}
}

func checkTyped(t *testing.T, elem, many, want int, wantIs bool) {
	t.Helper()
	if x, is := tag.Typed(elem, many); x != want || is != wantIs {
		t.Errorf("Typed(%d, %d) = %d, %t; want %d, %t", elem, many, x, is, want, wantIs)
	}
}

// The table of the chapter's section 'Examples'.
func TestExamples(t *testing.T) {
	checkPack(t, api.TStr, 1, 20, api.OK)
	checkPack(t, api.TVec, 4, 42, api.OK)
	checkPack(t, 3, 1, 0, api.ErrType)
	checkPack(t, api.TInt, 3, 0, api.ErrArg)
	checkUnpack(t, 106, api.TBool, 4, api.OK)
	checkUnpack(t, 147, api.TBools, 8, api.OK)
	checkUnpack(t, 12, 0, 0, api.ErrType)
	checkUnpack(t, 148, 0, 0, api.ErrType)
	checkInline(t, api.TBool, true)
	checkInline(t, api.TKey, false)
	checkLegal(t, 15, false)
	checkLegal(t, -1, false)
	checkElem(t, api.TKeys, api.TKey, 0, true)
	checkElem(t, api.TUints3, api.TUint, 3, true)
	checkElem(t, api.TVec, 0, 0, false)
	checkTyped(t, api.TInt, 2, api.TInts2, true)
	checkTyped(t, api.TKey, 2, 0, false)
	checkTyped(t, api.TBool, 0, api.TBools, true)
}

// P2.1: the tag of every type and width; a number that is not a type is reported before one that is not a width.
func TestPack(t *testing.T) {
	all := numbers()
	for _, x := range all {
		_, isType := types[x]
		for _, w := range all {
			code, isWidth := codes[w]
			switch {
			case !isType:
				checkPack(t, x, w, 0, api.ErrType)
			case !isWidth:
				checkPack(t, x, w, 0, api.ErrArg)
			default:
				checkPack(t, x, w, byte(4*x+code), api.OK)
			}
		}
	}
}

// P2.1: every byte.
func TestUnpack(t *testing.T) {
	for i := range 256 {
		if _, isType := types[i/4]; !isType {
			checkUnpack(t, byte(i), 0, 0, api.ErrType)
			continue
		}
		checkUnpack(t, byte(i), i/4, []int{1, 2, 4, 8}[i%4], api.OK)
	}
}

// P2.2: every type and other numbers.
func TestLegalAndInline(t *testing.T) {
	for _, x := range numbers() {
		isInline, isType := types[x]
		checkLegal(t, x, isType)
		checkInline(t, x, isInline)
	}
}

// P2.3: every type and other numbers.
func TestElem(t *testing.T) {
	for _, x := range numbers() {
		v, is := vectors[x]
		checkElem(t, x, v.elem, v.many, is)
	}
}

// P2.3: every pair of elements and a number of them that has a vector, and pairs that have none.
func TestTyped(t *testing.T) {
	byElements := map[elements]int{}
	for x, v := range vectors {
		byElements[v] = x
	}
	for _, elem := range numbers() {
		for _, many := range []int{math.MinInt, -4, -2, -1, 0, 1, 2, 3, 4, 5, 6, 8, 256, 258, 1<<32 + 2, math.MaxInt} {
			want, is := byElements[elements{elem, many}]
			checkTyped(t, elem, many, want, is)
		}
	}
}

// P2.4: what is packed is unpacked, and what is unpacked is packed again to the same tag.
func TestPackAndUnpackAreInverse(t *testing.T) {
	tags := 0
	for x := range types {
		for w := range codes {
			c, e := tag.Pack(x, w)
			if e != api.OK {
				t.Errorf("Pack(%d, %d): %d", x, w, e)
			}
			checkUnpack(t, c, x, w, api.OK)
		}
	}
	for i := range 256 {
		if x, w, e := tag.Unpack(byte(i)); e == api.OK {
			tags++
			checkPack(t, x, w, byte(i), api.OK)
		}
	}
	if tags != 4*len(types) {
		t.Errorf("%d bytes are tags; want %d", tags, 4*len(types))
	}
}

// P2.5: the vector of the elements of a vector is that vector, and the other way round.
func TestElemAndTypedAreInverse(t *testing.T) {
	found := map[int]bool{}
	for _, x := range numbers() {
		if elem, many, is := tag.Elem(x); is {
			found[x] = true
			checkTyped(t, elem, many, x, true)
		}
	}
	for _, elem := range numbers() {
		for many := -2; many <= 10; many++ {
			if x, is := tag.Typed(elem, many); is {
				checkElem(t, x, elem, many, true)
			}
		}
	}
	if len(found) != len(vectors) {
		t.Errorf("%d numbers are typed or fixed vectors; want %d", len(found), len(vectors))
	}
}

// P2.5: a typed or fixed vector is a type stored by offset, and its elements are inline or keys.
func TestVectorsAndTheirElements(t *testing.T) {
	for _, x := range numbers() {
		elem, _, is := tag.Elem(x)
		if !is {
			continue
		}
		checkLegal(t, x, true)
		checkInline(t, x, false)
		if !tag.Inline(elem) && elem != api.TKey {
			t.Errorf("the elements of %d have the type %d, which is neither inline nor TKey", x, elem)
		}
	}
}
