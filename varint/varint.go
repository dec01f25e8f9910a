// Package varint is layer 1: see shared/doc/01-varint.md.
package varint

import (
	"slices"

	"quorate/api"
)

const (
	longest = 10   // bytes of the longest form: 64 bits, 7 in each
	more    = 0x80 // the bit of a byte that is not the last one
)

// Uint puts a number behind bytes.
func Uint(b []byte, n uint64) []byte {
	// New memory, never an append to b: its spare capacity is the caller's.
	out := make([]byte, len(b), len(b)+longest)
	copy(out, b)
	for c := range form(n) {
		out = append(out, c)
	}
	return out
}

// Int puts a signed number.
func Int(b []byte, n int64) []byte { return Uint(b, fold(n)) }

// Text puts a text.
func Text(b []byte, s string) []byte {
	return append(Uint(b, uint64(len(s))), s...)
}

// form visits the bytes of a number's shortest form.
func form(n uint64) func(yield func(c byte) bool) {
	return func(yield func(c byte) bool) {
		rest := n
		for rest >= more {
			if !yield(byte(rest) | more) {
				return
			}
			rest >>= 7
		}
		yield(byte(rest))
	}
}

// fold is 2n, or -2n - 1 of a negative n. The complement of 2n is -2n - 1, and right in 64 bits even where 2n wraps around.
func fold(n int64) uint64 {
	twice := uint64(n) << 1
	if n < 0 {
		return ^twice
	}
	return twice
}

// unfold undoes fold.
func unfold(u uint64) int64 {
	half := int64(u >> 1)
	if u&1 == 1 {
		return ^half
	}
	return half
}

// fault keeps the first error of what embeds it.
type fault struct{ first api.Errno }

// fail keeps an error, unless there is an earlier one.
func (f *fault) fail(e api.Errno) {
	if f.first == api.OK {
		f.first = e
	}
}

// failed tells whether there was an error.
func (f *fault) failed() bool { return f.first != api.OK }

// Reader reads bytes.
type Reader struct {
	fault
	rest  []byte // from the position on
	limit int
}

// NewReader is one of bytes, for texts of at most so many.
func NewReader(b []byte, limit int) *Reader {
	return &Reader{rest: slices.Clone(b), limit: limit}
}

// Uint reads a number.
func (r *Reader) Uint() uint64 {
	if r == nil {
		return 0
	}
	var n uint64
	for i, c := range r.number {
		if i > 0 && c == 0 || i == longest-1 && c > 1 {
			r.fail(api.ErrForm)
			break
		}
		n |= uint64(c&^more) << (7 * i)
	}
	if r.failed() {
		return 0
	}
	return n
}

// number visits the bytes of the number at the position, with their places in it; it stops early where the bytes end.
func (r *Reader) number(yield func(i int, c byte) bool) {
	for i := range longest {
		c := r.Byte()
		if r.failed() || !yield(i, c) || c < more {
			return
		}
	}
}

// Int reads a signed number.
func (r *Reader) Int() int64 { return unfold(r.Uint()) }

// Text reads a text.
func (r *Reader) Text() string {
	n := r.Uint()
	if r == nil || r.failed() {
		return ""
	}
	// The limit first: a text that exceeds it is ill-formed, however many bytes follow.
	if r.limit < 0 || n > uint64(r.limit) {
		r.fail(api.ErrForm)
		return ""
	}
	if n > uint64(len(r.rest)) {
		r.fail(api.ErrShort)
		return ""
	}
	s := string(r.rest[:n])
	r.rest = r.rest[n:]
	return s
}

// Byte reads a byte.
func (r *Reader) Byte() byte {
	if r == nil || r.failed() {
		return 0
	}
	if len(r.rest) == 0 {
		r.fail(api.ErrShort)
		return 0
	}
	c := r.rest[0]
	r.rest = r.rest[1:]
	return c
}

// Err is its first error.
func (r *Reader) Err() api.Errno {
	if r == nil {
		return api.ErrNil
	}
	return r.first
}

// Done is its error, or that bytes are left. That is an error of the reader too, and persists.
func (r *Reader) Done() api.Errno {
	if r == nil {
		return api.ErrNil
	}
	if len(r.rest) > 0 {
		r.fail(api.ErrForm)
	}
	return r.first
}
