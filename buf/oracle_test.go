package buf_test

import (
	"encoding/binary"
	"math/big"
	"slices"
	"strconv"
	"strings"

	"accordion/api"
	"accordion/buf"
)

// The model follows the chapter's definitions, with its own numbers; of the program it uses only the type of the error numbers.

const (
	errArg   = 2
	errLimit = 5
	errRange = 6
	errFit   = 10
)

const most = 1048576 // 2^20

// model is a buffer as the section 'Definitions' describes it.
type model struct {
	capacity int
	contents string
	err      api.Errno
}

// newModel is P13.1.
func newModel(capacity int) *model {
	switch {
	case capacity < 0:
		capacity = 0
	case capacity > most:
		capacity = most
	}
	return &model{capacity: capacity}
}

// append adds bytes at the end, unless the contents would become longer than the capacity.
func (m *model) append(s string) api.Errno {
	if len(m.contents)+len(s) > m.capacity {
		return errLimit
	}
	m.contents += s
	return 0
}

// call is a call of a method that changes a buffer, and what the chapter says of it.
type call struct {
	name string
	on   func(b *buf.Buf)
	want func(m *model) api.Errno
}

// applyTo changes the model as the call does: once it has an error, nothing happens to it.
func (c call) applyTo(m *model) {
	if m.err == 0 {
		m.err = c.want(m)
	}
}

// align is P13.2.
func align(w int) call {
	return call{
		"Align(" + strconv.Itoa(w) + ")",
		func(b *buf.Buf) { b.Align(w) },
		func(m *model) api.Errno {
			if !slices.Contains(widths, w) {
				return errArg
			}
			padding := ""
			for (len(m.contents)+len(padding))%w != 0 {
				padding += "\x00"
			}
			return m.append(padding)
		},
	}
}

// num is P13.2.
func num(w int, u uint64) call {
	return call{
		"Num(" + strconv.Itoa(w) + ", " + strconv.FormatUint(u, 10) + ")",
		func(b *buf.Buf) { b.Num(w, u) },
		func(m *model) api.Errno {
			switch {
			case !slices.Contains(widths, w):
				return errArg
			case !fits(u, w):
				return errFit
			}
			return m.append(string(binary.LittleEndian.AppendUint64(nil, u)[:w]))
		},
	}
}

// text is P13.2.
func text(l ...string) call {
	return call{
		"Text(" + strings.Join(quoted(l), ", ") + ")",
		func(b *buf.Buf) { b.Text(l...) },
		func(m *model) api.Errno { return m.append(strings.Join(l, "")) },
	}
}

// cut is P13.3.
func cut(n int) call {
	return call{
		"Cut(" + strconv.Itoa(n) + ")",
		func(b *buf.Buf) { b.Cut(n) },
		func(m *model) api.Errno {
			if n < 0 || n > len(m.contents) {
				return errRange
			}
			m.contents = m.contents[:n]
			return 0
		},
	}
}

// fits is the condition u < 2^(8 w), computed with numbers that cannot overflow.
func fits(u uint64, w int) bool {
	end := new(big.Int).Lsh(big.NewInt(1), uint(8*w))
	return new(big.Int).SetUint64(u).Cmp(end) < 0
}

func quoted(l []string) []string {
	var q []string
	for _, s := range l {
		q = append(q, strconv.Quote(brief(s)))
	}
	return q
}

// brief shortens a text for a message.
func brief(s string) string {
	if len(s) > 40 {
		return s[:40] + ".. (" + strconv.Itoa(len(s)) + " bytes)"
	}
	return s
}

func names(l []call) string {
	var s []string
	for _, c := range l {
		s = append(s, c.name)
	}
	return strings.Join(s, ", ")
}
