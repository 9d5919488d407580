// Package wire is layer 1: bytes, taken and put: see shared/doc/01-wire.md.
package wire

import (
	"bytes"

	"scriptorium/api"
)

// wordSize is how many bytes a word has.
const wordSize = 4

// Reader takes bytes, from the first on; what can't be taken ends it, the first error counts.
type Reader struct {
	all []byte
	at  int
	err api.Errno
}

// Read: of bytes. It keeps a copy, so that it doesn't hang on what becomes of them.
func Read(b []byte) *Reader {
	return &Reader{all: bytes.Clone(b)}
}

// Fail: it has an error now, if it had none.
func (r *Reader) Fail(e api.Errno) {
	if r != nil && r.err == api.OK {
		r.err = e
	}
}

// Err: its error.
func (r *Reader) Err() api.Errno {
	if r == nil {
		return api.ErrNil
	}
	return r.err
}

// At: how many bytes were taken, ahead of an error, too.
func (r *Reader) At() int {
	if r == nil {
		return 0
	}
	return r.at
}

// Left: how many are left; 0, if it has an error.
func (r *Reader) Left() int {
	if r.Err() != api.OK {
		return 0
	}
	return len(r.all) - r.at
}

// Byte: the next one.
func (r *Reader) Byte() byte {
	if r.Left() == 0 {
		r.Fail(api.ErrShort)
		return 0
	}
	c := r.all[r.at]
	r.at++
	return c
}

// Bytes: the next ones, so many; none is taken, if there are fewer.
func (r *Reader) Bytes(n int) []byte {
	if r.Err() != api.OK || n < 0 || n > r.Left() {
		r.Fail(api.ErrShort)
		return nil
	}
	return r.take(n)
}

// Until: the next ones, up to a certain one, which is taken, too; none is taken, if it doesn't come.
func (r *Reader) Until(stop byte) []byte {
	if r.Err() != api.OK {
		return nil
	}
	n := bytes.IndexByte(r.all[r.at:], stop)
	if n < 0 {
		r.Fail(api.ErrShort)
		return nil
	}
	b := r.take(n)
	r.at++
	return b
}

// take: the next ones, which must be there; a copy, so that whoever gets them may change them.
func (r *Reader) take(n int) []byte {
	b := bytes.Clone(r.all[r.at : r.at+n])
	r.at += n
	return b
}

// Word: four bytes, the lowest first; if there are fewer, these are taken.
func (r *Reader) Word() uint32 {
	n := uint32(0)
	for i := range wordSize {
		n |= uint32(r.Byte()) << (8 * i)
	}
	if r.Err() != api.OK {
		return 0
	}
	return n
}

// End: its error; ErrRest, if bytes are left. It only looks: ErrRest isn't kept.
func (r *Reader) End() api.Errno {
	if r.Left() > 0 {
		return api.ErrRest
	}
	return r.Err()
}

// Writer puts bytes. It is handed on by its pointer: a copy of it would share spare room with it.
type Writer struct {
	all []byte
}

// Byte: one.
func (w *Writer) Byte(c byte) {
	if w != nil {
		w.all = append(w.all, c)
	}
}

// Put: many.
func (w *Writer) Put(b []byte) {
	if w != nil {
		w.all = append(w.all, b...)
	}
}

// Word: four, the lowest first.
func (w *Writer) Word(n uint32) {
	for i := range wordSize {
		w.Byte(byte(n >> (8 * i)))
	}
}

// Len: how many.
func (w *Writer) Len() int {
	if w == nil {
		return 0
	}
	return len(w.all)
}

// Bytes: all of them; a copy, since more may be put.
func (w *Writer) Bytes() []byte {
	if w == nil {
		return nil
	}
	return bytes.Clone(w.all)
}
