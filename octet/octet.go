// Package octet is layer 1: see shared/doc/01-octet.md.
package octet

import (
	"math"

	"sleuth/api"
)

// longest is how many digits to the base 128 a number below 2^64 has at most.
const longest = 10

// Writer lays bytes one behind the other.
type Writer struct{ b []byte }

// NewWriter is an empty one.
func NewWriter() *Writer { return &Writer{} }

// Byte lays a byte.
func (w *Writer) Byte(c byte) {
	if w != nil {
		w.b = append(w.b, c)
	}
}

// U32 lays four bytes.
func (w *Writer) U32(n uint32) { layHighFirst(w.Byte, uint64(n), 4) }

// U64 lays eight bytes.
func (w *Writer) U64(n uint64) { layHighFirst(w.Byte, n, 8) }

// layHighFirst lays a number as so many bytes.
func layHighFirst(lay func(byte), n uint64, size int) {
	for k := range size {
		lay(byte(n >> (8 * (size - 1 - k))))
	}
}

// Var lays a number of any size.
func (w *Writer) Var(n uint64) {
	for n >= 128 {
		w.Byte(byte(n) | 128)
		n >>= 7
	}
	w.Byte(byte(n))
}

// Text lays a text with its length ahead.
func (w *Writer) Text(s string) {
	w.Var(uint64(len(s)))
	if w != nil {
		w.b = append(w.b, s...)
	}
}

// Raw lays bytes.
func (w *Writer) Raw(p []byte) {
	if w != nil {
		w.b = append(w.b, p...)
	}
}

// Len is how many bytes there are.
func (w *Writer) Len() int {
	if w == nil {
		return 0
	}
	return len(w.b)
}

// Bytes are all of them.
func (w *Writer) Bytes() []byte {
	if w == nil {
		return nil
	}
	return own(w.b)
}

// own is bytes as memory that nobody else has.
func own(b []byte) []byte { return append([]byte(nil), b...) }

// Reader takes bytes one behind the other, till its first error.
type Reader struct {
	b   []byte
	at  int
	err api.Errno
}

// NewReader goes through bytes.
func NewReader(b []byte) *Reader { return &Reader{b: own(b)} }

// look is deferred by every reading call, so that one that gives up halfway, in itself or in a call below it, has gone nowhere.
func (r *Reader) look(from int) {
	if r != nil && r.err != api.OK {
		r.at = from
	}
}

// fail gives up. An error that is there already stays.
func (r *Reader) fail(e api.Errno) {
	if r.Err() == api.OK {
		r.err = e
	}
}

// has asks whether so many bytes can be taken, and gives up if they can't.
func (r *Reader) has(n int) bool {
	if r.Left() < n {
		r.fail(api.ErrEnd)
	}
	return r.Err() == api.OK
}

// Byte takes a byte.
func (r *Reader) Byte() byte {
	defer r.look(r.At())
	if !r.has(1) {
		return 0
	}
	c := r.b[r.at]
	r.at++
	return c
}

// U32 takes four bytes.
func (r *Reader) U32() uint32 { return uint32(r.number(4)) }

// U64 takes eight bytes.
func (r *Reader) U64() uint64 { return r.number(8) }

// number takes a number of so many bytes: 0, if they end ahead of it.
func (r *Reader) number(size int) uint64 {
	defer r.look(r.At())
	n := takeHighFirst(r.Byte, size)
	if r.Err() != api.OK {
		return 0
	}
	return n
}

// takeHighFirst takes a number of so many bytes.
func takeHighFirst(take func() byte, size int) uint64 {
	var n uint64
	for range size {
		n = n<<8 | uint64(take())
	}
	return n
}

// Var takes a number of any size.
func (r *Reader) Var(most uint64) uint64 {
	defer r.look(r.At())
	n := r.digits()
	if n > most {
		r.fail(api.ErrLong)
		return 0
	}
	return n
}

// digits takes digits to the base 128: 0, if they are no number.
func (r *Reader) digits() uint64 {
	var n uint64
	for k := range longest {
		c := r.Byte()
		if r.Err() != api.OK {
			return 0
		}
		// Nine digits hold 63 of the 64 bits: one is left for the last digit, and nothing may follow it.
		tooBig := k == longest-1 && c > 1
		tooLong := k > 0 && c == 0
		if tooBig || tooLong {
			r.fail(api.ErrForm)
			return 0
		}
		n |= uint64(c&127) << (7 * k)
		if c < 128 {
			break
		}
	}
	return n
}

// Text takes a text with its length ahead.
func (r *Reader) Text(most int) string {
	defer r.look(r.At())
	n := r.Var(math.MaxUint64)
	if most < 0 || n > uint64(most) {
		r.fail(api.ErrLong)
		return ""
	}
	return string(r.Raw(int(n)))
}

// Raw takes so many bytes.
func (r *Reader) Raw(n int) []byte {
	defer r.look(r.At())
	if n < 0 {
		r.fail(api.ErrLong)
	}
	if !r.has(n) {
		return nil
	}
	p := own(r.b[r.at : r.at+n])
	r.at += n
	return p
}

// Err is the first error.
func (r *Reader) Err() api.Errno {
	if r == nil {
		return api.ErrNil
	}
	return r.err
}

// At is the place.
func (r *Reader) At() int {
	if r == nil {
		return 0
	}
	return r.at
}

// Left is how many bytes stand behind it.
func (r *Reader) Left() int {
	if r == nil {
		return 0
	}
	return len(r.b) - r.at
}

// End asks whether all went well to the end.
func (r *Reader) End() api.Errno {
	if r.Err() == api.OK && r.Left() > 0 {
		return api.ErrRest
	}
	return r.Err()
}
