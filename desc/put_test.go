package desc_test

import (
	"bytes"
	"testing"

	"scriptorium/api"
	"scriptorium/desc"
	"scriptorium/itf"
)

// puts: a way, of numbers or of bytes.
type puts interface {
	Put(w *itf.Writer) api.Errno
}

// isPut: behind a byte that was there, it is put as those bytes; if there is an error, nothing is.
func isPut(t *testing.T, d puts, want []byte, e api.Errno) {
	t.Helper()
	w := &itf.Writer{}
	w.Byte(77)
	if got := d.Put(w); got != e || !bytes.Equal(w.Bytes(), append([]byte{77}, want...)) {
		t.Errorf("%v: put as %x (error %d), not %x (error %d)", d, w.Bytes()[1:], int(got), want, int(e))
	}
}

// TestPutExamples: P9.1, byte by byte.
func TestPutExamples(t *testing.T) {
	for _, c := range []struct {
		d    puts
		want string
	}{
		{outside(7), "\x01\x07"},
		{outside(127), "\x01\x7f"},
		{outside(300), "\x01\x81\x2c"},
		{outside(60000), "\x01\xc0\xea\x60"},
		{fixed(3, 4), "\x06\x03\x04"},
		{fixed(-1, 31), "\x06\xff\xff\xff\xff\x0f\x1f"},
		{fixed(-2147483647, 0), "\x06\xf8\x00\x00\x00\x01\x00"},
		{fixed(2147483647, 0), "\x06\xf7\xff\xff\xff\x0f\x00"},
		{words(entries(5, 0)), "\x03\x01\x05\x00"},
		{words(entries(-4, 1, 2, 2, 300, 2)), "\x03\x03" + "\xff\xff\xff\xff\x0c\x02\x81\x2c" + "\x01\x02\x02"},
		{words(entries(5, 20)), "\x03\x01\x05\x14"},
		{stopped(7, 10), "\x05\x07\x0a"},
		{stopped(300, 255), "\x05\x81\x2c\xff"},
		{stopped(60000, 128), "\x05\xc0\xea\x60\x80"},
		{counted(2, fixed(3, 4)), "\x04\x02\x06\x03\x04"},
		{counted(300, outside(7)), "\x04\x81\x2c\x01\x07"},
		{counted(7, outside(300)), "\x04\x07\x01\x81\x2c"},
		{counted(1, words(entries(0, 1, 9, 1))), "\x04\x01\x03\x02\x00\x09\x01\x01"},
	} {
		isPut(t, c.d, []byte(c.want), api.OK)
	}
}

// TestPut: P9.1; all that may be.
func TestPut(t *testing.T) {
	for _, d := range ints() {
		isPut(t, d, spelt(toldInts(d)...), api.OK)
	}
	for _, d := range arrays() {
		isPut(t, d, toldArrays(d), api.OK)
	}
}

// TestPutOfAsManyAsMayBe: P9.1; 256 is a number of two bytes, as any other.
func TestPutOfAsManyAsMayBe(t *testing.T) {
	w := &itf.Writer{}
	if e := words(many(256, 8)).Put(w); e != api.OK || !bytes.HasPrefix(w.Bytes(), []byte("\x03\x81\x00")) || !bytes.HasSuffix(w.Bytes(), bytes.Repeat([]byte{8}, 256)) {
		t.Errorf("%x, error %d", w.Bytes(), int(e))
	}
}

// TestWhatDoesNotBelongIsNotPut: P9.1.
func TestWhatDoesNotBelongIsNotPut(t *testing.T) {
	for _, d := range ints() {
		isPut(t, odd(d), spelt(toldInts(d)...), api.OK)
	}
	for _, d := range arrays() {
		isPut(t, oddArrays(d), toldArrays(d), api.OK)
	}
}

// TestPutErrors: P9.1, R2 and R4; ErrNil ahead of Check's, and nothing is put beside an error.
func TestPutErrors(t *testing.T) {
	for _, c := range refused() {
		isPut(t, c.d, nil, c.want)
		isPut(t, counted(3, c.d), nil, c.want)
		isPut(t, counted(0, c.d), nil, api.ErrRange)
		for _, d := range []puts{c.d, counted(3, c.d), counted(0, c.d)} {
			if e := d.Put(nil); e != api.ErrNil {
				t.Errorf("no writer: error %d", int(e))
			}
		}
	}
	for _, block := range []int{0, -1, 60001, 1<<32 + 1} {
		isPut(t, stopped(block, 10), nil, api.ErrRange)
		isPut(t, counted(block, outside(1)), nil, api.ErrRange)
	}
	for kind := range 256 {
		if kind != 4 && kind != 5 {
			isPut(t, desc.Arrays{Kind: desc.Kind(kind), Block: 1, Ints: outside(1)}, nil, api.ErrKind)
		}
	}
	for _, d := range []puts{outside(7), fixed(3, 4), words(entries(5, 0)), stopped(7, 10), counted(2, fixed(3, 4))} {
		if e := d.Put(nil); e != api.ErrNil {
			t.Errorf("no writer: error %d", int(e))
		}
	}
}
