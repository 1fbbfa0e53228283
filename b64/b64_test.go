package b64_test

import (
	"bytes"
	"strings"
	"testing"

	"accordion/api"
	"accordion/b64"
)

// sample holds bytes of every length modulo three whose encodings use many characters, the last two of the alphabet among them.
var sample = []string{
	"", "\x00", "\x01", "\xff", "f", "\x00\x00", "\x00\x01", "\xff\xff", "fo", "\x00\x00\x00", "\xff\xff\xff", "foo",
	"\xfb\xef\xbe\xff", "foof", "\x80\x40\x20\x10", "fooba", "foobar", "\x00\x10\x83\x10\x51\x87\x20\x92\x8b",
	"\x80\xf0\xe0\x00\x0a\x0d\x20\x3d\x2b\x2f",
}

func checkPut(t *testing.T, b, want string) {
	t.Helper()
	if s := b64.Put([]byte(b)); s != want {
		t.Errorf("Put(% x) = %q; want %q", b, s, want)
	}
}

func checkGet(t *testing.T, s, want string) {
	t.Helper()
	if b, at, e := b64.Get(s); string(b) != want || at != 0 || e != api.OK {
		t.Errorf("Get(%q) = % x, %d, %d; want % x, 0, OK", s, b, at, e, want)
	}
}

func checkWrong(t *testing.T, s string, wantAt int) {
	t.Helper()
	if b, at, e := b64.Get(s); len(b) != 0 || at != wantAt || e != api.ErrBase {
		t.Errorf("Get(%q) = % x, %d, %d; want no bytes, %d, ErrBase", s, b, at, e, wantAt)
	}
}

// checkAny compares Get with the definition of P5.2.
func checkAny(t *testing.T, s string) {
	t.Helper()
	if b, is := decode(s); is {
		checkGet(t, s, string(b))
	} else {
		checkWrong(t, s, firstWrong(s))
	}
}

// upTo calls use with every string of at most n elements of parts.
func upTo(n int, parts []string, use func(s string)) {
	use("")
	if n == 0 {
		return
	}
	for _, part := range parts {
		upTo(n-1, parts, func(s string) {
			use(part + s)
		})
	}
}

func TestExamples(t *testing.T) {
	checkPut(t, "f", "Zg==")
	checkPut(t, "fo", "Zm8=")
	checkPut(t, "foo", "Zm9v")
	checkPut(t, "\xfb\xef\xbe\xff", "++++/w==")
	checkGet(t, "Zm9vZg==", "foof")
	checkGet(t, "", "")
	checkWrong(t, "Zh==", 2)
	checkWrong(t, "Zm9=", 3)
	checkWrong(t, "Z===", 1)
	checkWrong(t, "Zg=a", 3)
	checkWrong(t, "Zg==Z", 4)
	checkWrong(t, "Zm9", 3)
	checkWrong(t, "Zm 9", 2)
	checkWrong(t, "Zm-_", 2)
}

// P5.1: the 64 numbers in their order, in each of the four places of a group.
func TestPutWholeAlphabet(t *testing.T) {
	const alphabet = "ABCDEFGHIJKLMNOPQRSTUVWXYZabcdefghijklmnopqrstuvwxyz0123456789+/"
	for i, c := range alphabet {
		for place := range 4 {
			bits := i << (18 - 6*place)
			want := []byte("AAAA")
			want[place] = byte(c)
			checkPut(t, string([]byte{byte(bits >> 16), byte(bits >> 8), byte(bits)}), string(want))
		}
	}
}

// P5.1: the library's encoder on all sequences of up to two bytes, and on sequences that count upwards.
func TestPutAgainstLibrary(t *testing.T) {
	checkPut(t, "", "")
	for i := range 256 {
		checkPut(t, string([]byte{byte(i)}), encode([]byte{byte(i)}))
		for j := range 256 {
			two := []byte{byte(i), byte(j)}
			checkPut(t, string(two), encode(two))
		}
	}
	eachCounted(func(b []byte) {
		checkPut(t, string(b), encode(b))
	})
}

// eachCounted calls use with byte sequences of all lengths up to 70, and with a few longer ones.
func eachCounted(use func(b []byte)) {
	lengths := []int{255, 256, 257, 1000, 4095, 4096, 4097, 1 << 20}
	for n := range 71 {
		lengths = append(lengths, n)
	}
	for _, n := range lengths {
		b := make([]byte, n)
		for i := range b {
			b[i] = byte(i*37 + i>>8 + n)
		}
		use(b)
	}
}

// P5.2: every encoding of up to two bytes, and longer ones.
func TestGetEncodings(t *testing.T) {
	for i := range 256 {
		one := []byte{byte(i)}
		checkGet(t, encode(one), string(one))
		for j := range 256 {
			two := []byte{byte(i), byte(j)}
			checkGet(t, encode(two), string(two))
		}
	}
	eachCounted(func(b []byte) {
		checkGet(t, encode(b), string(b))
	})
}

// P5.2: all short strings of the bytes that matter: characters with and without zero bits at their end, padding, and what no encoding contains.
func TestGetShortStrings(t *testing.T) {
	upTo(6, []string{"A", "Q", "g", "B", "/", "=", "-"}, func(s string) {
		checkAny(t, s)
	})
}

// P5.2: every byte in every place of a group, with and without padding around it, in the first group and in a later one.
func TestGetEveryByteEverywhere(t *testing.T) {
	for _, s := range []string{"AAAA", "Zm8=", "Zg==", "////", "foofZm8=", "foofZg==", "foof++++", "Zg==foof", "Zm8=foof", "Z===", "===="} {
		for place := range len(s) {
			for c := range 256 {
				checkAny(t, s[:place]+string([]byte{byte(c)})+s[place+1:])
				checkAny(t, s[:place]+string([]byte{byte(c)})+s[place:])
			}
		}
	}
}

// P5.2: each character before padding, which stands only after zero bits.
func TestGetBitsBeforePadding(t *testing.T) {
	for c := range 256 {
		s := string([]byte{byte(c)})
		for _, end := range []string{"", "=", "==", "===", "A=", "A==", "AA", "=A", "==A", "==="} {
			checkAny(t, "A"+s+end)
			checkAny(t, "AA"+s+end)
			checkAny(t, "AAAAA"+s+end)
		}
	}
}

// P5.2: characters that other decoders skip or accept, and padding that they do not miss.
func TestGetIsStrict(t *testing.T) {
	checkWrong(t, "Zm9v\n", 4)
	checkWrong(t, "Zm9v\r\nZm9v", 4)
	checkWrong(t, "Zm\n9v", 2)
	checkWrong(t, " Zm9v", 0)
	checkWrong(t, "Zg", 2)
	checkWrong(t, "Zg=", 3)
	checkWrong(t, "Zh", 2)
	checkWrong(t, "Zh=", 2)
	checkWrong(t, "Zm9", 3)
	checkWrong(t, "Z", 1)
	checkWrong(t, "=", 0)
	checkWrong(t, "====", 0)
	checkWrong(t, "Zg===", 4)
	checkWrong(t, "Zm8==", 4)
	checkWrong(t, "Zm9v=", 4)
	checkWrong(t, "Zg==Zg==", 4)
	checkWrong(t, "Zm8=\x00", 4)
	checkWrong(t, "Zm8\x80", 3)
	checkWrong(t, "Zm8\xc3\xa4", 3)
	checkWrong(t, "Zm8\uff1d", 3)
}

// P5.2: the first wrong byte of a long string, whatever follows it.
func TestGetLongWrong(t *testing.T) {
	long := strings.Repeat("Zm9v", 50000)
	checkWrong(t, long+"Z", len(long)+1)
	checkWrong(t, long+"Zg==Zm9v", len(long)+4)
	checkWrong(t, long+"\n"+long+"\n", len(long))
	checkWrong(t, long+"Z="+long, len(long)+1)
}

// P5.3: neither the bytes nor the capacity behind them change, and later changes of them do not show.
func TestPutKeepsItsArgument(t *testing.T) {
	for n := range 10 {
		before := []byte("foobarfoobar")
		all := bytes.Clone(before)
		s := b64.Put(all[:n])
		if !bytes.Equal(all, before) {
			t.Errorf("Put of %d bytes changed them to %q", n, all)
		}
		clear(all)
		if want := encode(before[:n]); s != want {
			t.Errorf("Put of %d bytes changed from %q to %q", n, want, s)
		}
	}
}

// P5.3: a result is new memory, its capacity included.
func TestGetReturnsNewMemory(t *testing.T) {
	for _, want := range sample {
		s := encode([]byte(want))
		first, _, _ := b64.Get(s)
		second, _, _ := b64.Get(s)
		whole := first[:cap(first)]
		for i := range whole {
			whole[i] = '!'
		}
		if string(second) != want || s != encode([]byte(want)) {
			t.Errorf("Get(%q): a change of one result shows in another or in the argument", s)
		}
		checkGet(t, s, want)
	}
}

// R4: no bytes are no bytes, nil or not.
func TestPutNothing(t *testing.T) {
	for _, b := range [][]byte{nil, {}, make([]byte, 0, 8)} {
		if s := b64.Put(b); s != "" {
			t.Errorf("Put of nothing = %q", s)
		}
	}
}

// P5.4: Get inverts Put, on what counts upwards and on every short sequence of bytes at the edges.
func TestGetInvertsPut(t *testing.T) {
	eachCounted(func(b []byte) {
		checkGet(t, b64.Put(b), string(b))
	})
	upTo(5, []string{"\x00", "\x01", "\x3f", "\x80", "\xff"}, func(s string) {
		checkGet(t, b64.Put([]byte(s)), s)
	})
}

// P5.4: what Get accepts is what Put makes of its result.
func TestPutInvertsGet(t *testing.T) {
	upTo(8, []string{"A", "Q", "/", "="}, func(s string) {
		if b, _, e := b64.Get(s); e == api.OK {
			checkPut(t, string(b), s)
		}
	})
}

// P5.5: the number of characters.
func TestLength(t *testing.T) {
	for n := range 100 {
		want := n / 3 * 4
		if n%3 != 0 {
			want += 4
		}
		if s := b64.Put(make([]byte, n)); len(s) != want {
			t.Errorf("Put of %d bytes has %d characters; want %d", n, len(s), want)
		}
	}
}

// P5.5: encodings may be joined after whole groups.
func TestJoined(t *testing.T) {
	for _, a := range sample {
		if len(a)%3 != 0 {
			continue
		}
		for _, b := range sample {
			checkPut(t, a+b, b64.Put([]byte(a))+b64.Put([]byte(b)))
		}
	}
}

// P5.6: prefixes of encodings.
func TestPrefixes(t *testing.T) {
	for _, b := range sample {
		s := encode([]byte(b))
		for n := range len(s) {
			if n%4 == 0 {
				checkGet(t, s[:n], b[:n/4*3])
			} else {
				checkWrong(t, s[:n], n)
			}
		}
	}
}
