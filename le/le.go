// Package le is layer 1, little-endian integers of 1, 2, 4 and 8 bytes: see shared/doc/01-le.md.
package le

import "accordion/api"

// Load decodes the unsigned integer of w bytes at the offset at.
func Load(b []byte, at, w int) (uint64, api.Errno) {
	var u uint64
	e := onBytes(b, at, w, func(part []byte) api.Errno {
		u = decode(part)
		return api.OK
	})
	return u, e
}

// LoadInt decodes the signed integer of w bytes at the offset at.
func LoadInt(b []byte, at, w int) (int64, api.Errno) {
	var n int64
	e := onBytes(b, at, w, func(part []byte) api.Errno {
		n = signed(decode(part), len(part))
		return api.OK
	})
	return n, e
}

// Put returns b followed by the encoding of u in w bytes.
func Put(b []byte, w int, u uint64) ([]byte, api.Errno) {
	if !isWidth(w) {
		return nil, api.ErrArg
	}
	if !fits(u, w) {
		return nil, api.ErrFit
	}
	return extend(b, w, u), api.OK
}

// PutInt returns b followed by the encoding of n in w bytes.
func PutInt(b []byte, w int, n int64) ([]byte, api.Errno) {
	if !isWidth(w) {
		return nil, api.ErrArg
	}
	if !fitsInt(n, w) {
		return nil, api.ErrFit
	}
	return extend(b, w, uint64(n)), api.OK
}

// Set returns a copy of b with the encoding of u in the w bytes at the offset at.
func Set(b []byte, at, w int, u uint64) ([]byte, api.Errno) {
	var changed []byte
	e := onBytes(b, at, w, func(part []byte) api.Errno {
		if !fits(u, len(part)) {
			return api.ErrFit
		}
		changed = make([]byte, len(b))
		copy(changed, b)
		encode(changed[at:at+w], u)
		return api.OK
	})
	return changed, e
}

// onBytes checks the width and the offset once for all readers and writers, and applies use to the w bytes at the offset at.
func onBytes(b []byte, at, w int, use func(part []byte) api.Errno) api.Errno {
	if !isWidth(w) {
		return api.ErrArg
	}
	// The sum at + w could overflow; the difference cannot.
	if at < 0 || at > len(b)-w {
		return api.ErrRange
	}
	return use(b[at : at+w])
}

func isWidth(w int) bool {
	return w == 1 || w == 2 || w == 4 || w == 8
}

func fits(u uint64, w int) bool {
	return u>>(8*w) == 0
}

// fitsInt compares all bits from the sign bit of the width upwards: they are equal exactly if the shorter encoding loses nothing.
func fitsInt(n int64, w int) bool {
	high := n >> (8*w - 1)
	return high == 0 || high == -1
}

func decode(part []byte) uint64 {
	var u uint64
	for i, c := range part {
		u |= uint64(c) << (8 * i)
	}
	return u
}

func encode(part []byte, u uint64) {
	for i := range part {
		part[i] = byte(u >> (8 * i))
	}
}

// signed moves the sign bit of the width to the top, because a right shift of a signed number repeats the top bit.
func signed(u uint64, w int) int64 {
	unused := 64 - 8*w
	return int64(u<<unused) >> unused
}

// extend always allocates, because b may have capacity that belongs to the caller.
func extend(b []byte, w int, u uint64) []byte {
	grown := make([]byte, len(b)+w)
	copy(grown, b)
	encode(grown[len(b):], u)
	return grown
}
