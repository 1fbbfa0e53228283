package utf

import (
	"strings"
	"unicode/utf8"

	"accordion/api"
)

// state says what a reader expects next.
type state int

// A reader starts in the first state. The states from backslash to second are those within a surrogate pair.
const (
	opening   state = iota // the opening quotation mark
	item                   // an item or the closing quotation mark
	encoding               // another byte of an encoding
	escape                 // the byte after a backslash
	first                  // a digit after \u
	backslash              // the second backslash of a pair
	letter                 // the second u of a pair
	second                 // a digit after the second \u of a pair
	closed                 // nothing more
)

// The surrogates: a high one and a low one make a pair.
const (
	highFirst = 0xd800
	lowFirst  = 0xdc00
	lowLast   = 0xdfff
)

// beyond is the least scalar value that takes a pair.
const beyond = 0x10000

// reader reads a literal byte by byte, so that it refuses the first byte with which no literal can go on.
type reader struct {
	state  state
	text   []byte // what the complete items denote
	part   []byte // the bytes of an incomplete encoding
	number number // the digits of an incomplete \u sequence
	high   rune   // the high surrogate of an incomplete pair
}

// read accepts or refuses the next byte. It is not called once the literal is closed.
func (r *reader) read(c byte) api.Errno {
	switch r.state {
	case opening:
		return r.expect(c, '"', item)
	case item:
		return r.readItem(c)
	case encoding:
		return r.readEncoding(c)
	case escape:
		return r.readEscape(c)
	case first:
		return r.readFirst(c)
	case backslash:
		return r.expect(c, '\\', letter)
	case letter:
		return r.expect(c, 'u', second)
	}
	return r.readSecond(c)
}

func (r *reader) expect(c, only byte, next state) api.Errno {
	if c != only {
		return api.ErrEscape
	}
	r.state = next
	return api.OK
}

func (r *reader) readItem(c byte) api.Errno {
	switch {
	case c == '"':
		r.state = closed
	case c == '\\':
		r.state = escape
	case c < space:
		return api.ErrEscape
	default:
		r.state = encoding
		return r.readEncoding(c)
	}
	return api.OK
}

// readEncoding relies on FullRune, which is false only for the start of an encoding that lacks bytes.
func (r *reader) readEncoding(c byte) api.Errno {
	r.part = append(r.part, c)
	if !utf8.FullRune(r.part) {
		return api.OK
	}
	if !utf8.Valid(r.part) {
		return api.ErrUtf
	}
	r.text = append(r.text, r.part...)
	r.part = r.part[:0]
	r.state = item
	return api.OK
}

func (r *reader) readEscape(c byte) api.Errno {
	if c == 'u' {
		r.state = first
		return api.OK
	}
	i := strings.IndexByte(letters, c)
	if i < 0 {
		return api.ErrEscape
	}
	r.denote(rune(denoted[i]))
	return api.OK
}

// readFirst refuses a digit after which only low surrogates are possible: they do not begin a pair.
func (r *reader) readFirst(c byte) api.Errno {
	if !r.number.add(c) {
		return api.ErrEscape
	}
	least, greatest := r.number.bounds()
	if least >= lowFirst && greatest <= lowLast {
		return api.ErrEscape
	}
	if !r.number.complete() {
		return api.OK
	}
	if least >= highFirst && least < lowFirst {
		r.high = least
		r.number = number{}
		r.state = backslash
		return api.OK
	}
	r.denote(least)
	return api.OK
}

// readSecond refuses a digit after which no low surrogate is possible.
func (r *reader) readSecond(c byte) api.Errno {
	if !r.number.add(c) {
		return api.ErrEscape
	}
	least, greatest := r.number.bounds()
	if greatest < lowFirst || least > lowLast {
		return api.ErrEscape
	}
	if r.number.complete() {
		r.denote(beyond + 0x400*(r.high-highFirst) + least - lowFirst)
	}
	return api.OK
}

// denote completes an item that denotes a scalar value.
func (r *reader) denote(code rune) {
	r.text = utf8.AppendRune(r.text, code)
	r.number = number{}
	r.state = item
}
