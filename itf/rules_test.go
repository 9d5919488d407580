package itf_test

import (
	"math"
	"testing"

	"scriptorium/api"
	"scriptorium/itf"
	"scriptorium/wire"
)

// TestNilWriterDoesNothing: R7, of this layer's own calls.
func TestNilWriterDoesNothing(t *testing.T) {
	var w *itf.Writer
	for _, n := range samples(math.MaxUint64) {
		w.Int(uint32(n))
		w.Signed(int(n))
		w.Long(n)
	}
}

// TestReaderOfNothing: R7; without a wire.Reader within it, a Reader does nothing.
func TestReaderOfNothing(t *testing.T) {
	r := itf.Reader{}
	r.Fail(api.ErrForm)
	if r.Int() != 0 || r.Signed() != 0 || r.Long() != 0 || r.At() != 0 || r.Left() != 0 {
		t.Error("numbers of nothing")
	}
	for _, most := range []int{math.MinInt, -1, 0, 1, math.MaxInt} {
		if r.Count(most) != 0 {
			t.Error("a count of nothing")
		}
	}
	if r.Err() != api.ErrNil || r.End() != api.ErrNil {
		t.Errorf("its error is %d", int(r.Err()))
	}
}

// TestNoBytes: R5; nil and empty are the same.
func TestNoBytes(t *testing.T) {
	for _, in := range [][]byte{nil, {}} {
		if r := itf.Read(in); r.Err() != api.OK || r.End() != api.OK || r.Left() != 0 {
			t.Error("a reader of no bytes")
		}
		for _, call := range []func(r itf.Reader) uint64{
			itf.Reader.Long,
			func(r itf.Reader) uint64 { return uint64(r.Int()) },
			func(r itf.Reader) uint64 { return uint64(r.Signed()) },
			func(r itf.Reader) uint64 { return uint64(r.Count(-1)) },
		} {
			r := itf.Read(in)
			says(t, "no bytes", r, call(r), answer{0, 0, api.ErrShort})
		}
	}
	if w := (&itf.Writer{}); w.Len() != 0 || len(w.Bytes()) != 0 {
		t.Error("a new writer has bytes")
	}
}

// TestReaderKeepsNothingHandedIn: R6, spare room included.
func TestReaderKeepsNothingHandedIn(t *testing.T) {
	all := []byte("\x81\x2c\xf1\x23\x45\x67\x08\xc0\x40\x00spare")
	text := string(all)
	in := all[:10]
	r := itf.Read(in)
	if r.Int() != 300 || string(all) != text {
		t.Errorf("what was handed in is changed: %x", all)
	}
	for i := range all {
		all[i] ^= 0xff
	}
	if r.Signed() != 0x12345678 || r.Long() != 1<<14 || r.End() != api.OK {
		t.Error("the reader hangs on what it was given")
	}
}

// TestWriterAnswersNewMemory: R6.
func TestWriterAnswersNewMemory(t *testing.T) {
	w := &itf.Writer{}
	w.Int(300)
	first := w.Bytes()
	w.Long(1 << 20)
	whole := w.Bytes()
	if string(first) != "\x81\x2c" {
		t.Errorf("an answer changes with the writer: %x", first)
	}
	for _, b := range [][]byte{first[:cap(first)], whole[:cap(whole)]} {
		for i := range b {
			b[i] ^= 0xff
		}
	}
	w.Signed(-1)
	if got := string(w.Bytes()); got != "\x81\x2c\xd0\x00\x00\xff\xff\xff\xff\x0f" {
		t.Errorf("an answer shares the writer's memory: %x", got)
	}
}

// TestReaderSharesWhatItEmbeds: a Reader is a value, what it takes is taken of the one wire.Reader within it.
func TestReaderSharesWhatItEmbeds(t *testing.T) {
	below := wire.Read([]byte("\x81\x2c\x05\x07\xff"))
	r := itf.Reader{Reader: below}
	again := r
	if r.Int() != 300 || again.Int() != 5 || below.Byte() != 7 || r.At() != 4 {
		t.Error("copies don't take from the same bytes")
	}
	if again.Long() != 0 || r.Err() != api.ErrShort || below.Err() != api.ErrShort {
		t.Error("an error isn't shared")
	}
}

// TestTheFirstErrorCounts: what wire's calls or Fail left stays.
func TestTheFirstErrorCounts(t *testing.T) {
	r := itf.Read([]byte{0x80, 5, 0x80, 5})
	r.Fail(api.ErrSum)
	ended(t, "Fail ahead of a number", r, 0, api.ErrSum)
	r = itf.Read([]byte{0x80, 5, 0x80, 5})
	r.Bytes(9)
	ended(t, "Bytes of too many", r, 0, api.ErrShort)
	r = itf.Read([]byte{0x80, 5, 9})
	r.Int()
	r.Fail(api.ErrSum)
	ended(t, "Fail behind a number", r, 2, api.ErrForm)
}

// TestObjectsStandAlone: R8; what one is told doesn't show in another.
func TestObjectsStandAlone(t *testing.T) {
	in := []byte{0x81, 0x2c, 7}
	a, b := itf.Read(in), itf.Read(in)
	a.Count(1)
	if b.Int() != 300 || b.Int() != 7 || b.End() != api.OK {
		t.Error("a reader hangs on another")
	}
	v, w := &itf.Writer{}, &itf.Writer{}
	v.Int(300)
	w.Int(5)
	v.Int(6)
	if string(v.Bytes()) != "\x81\x2c\x06" || string(w.Bytes()) != "\x05" {
		t.Error("a writer hangs on another")
	}
}
