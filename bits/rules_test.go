package bits_test

import (
	"testing"

	"scriptorium/api"
	"scriptorium/bits"
)

// TestNilDoesNothing: R7; but a nil Reader has ended (P3.2).
func TestNilDoesNothing(t *testing.T) {
	var r *bits.Reader
	for range 2 {
		for _, size := range sizes {
			if r.Take(size.asked) != 0 {
				t.Error("a nil Reader's bits")
			}
		}
		if !r.Ended() || r.End() != api.ErrNil {
			t.Errorf("a nil Reader: ended %v, End %d", r.Ended(), int(r.End()))
		}
		r.Fail()
	}
	var w *bits.Writer
	for _, size := range sizes {
		w.Put(5, size.asked)
	}
	if w.Len() != 0 || len(w.Bytes()) != 0 {
		t.Error("a nil Writer has bits")
	}
}

// TestNoBytes: R5; nil and empty are the same, and a Reader without bytes is one.
func TestNoBytes(t *testing.T) {
	for _, r := range []*bits.Reader{bits.Read(nil), bits.Read([]byte{}), {}} {
		if r == nil {
			t.Fatal("no reader of no bytes")
		}
		says(t, "no bytes", r, false, api.OK)
		if r.Take(0) != 0 || r.Take(-1) != 0 {
			t.Error("bits of no bytes")
		}
		says(t, "no bits taken", r, false, api.OK)
		r.Take(1)
		over(t, "a bit of no bytes", r)
	}
	w := &bits.Writer{}
	w.Put(1, 0)
	holds(t, "no bits put", w, "")
}

// roomy: bytes with spare room behind them, and all of that memory.
func roomy(text string) (b, all []byte) {
	all = []byte(text + "spare")
	return all[:len(text)], all
}

// spoil changes bytes and the spare room behind them.
func spoil(b []byte) {
	b = b[:cap(b)]
	for i := range b {
		b[i] ^= 0xff
	}
}

// TestReaderKeepsNothingHandedIn: R6, spare room included.
func TestReaderKeepsNothingHandedIn(t *testing.T) {
	b, all := roomy("\xa0\x9f\x12\x00")
	r := bits.Read(b)
	r.Take(3)
	r.End()
	if string(all) != "\xa0\x9f\x12\x00spare" {
		t.Errorf("the reader changed what it was given: %x", all)
	}
	spoil(b)
	if r.Take(6) != 1 || r.Take(16) != 0x3e24 || r.End() != api.OK {
		t.Error("the reader hangs on what it was given")
	}
}

// TestWriterAnswersNewMemory: R6.
func TestWriterAnswersNewMemory(t *testing.T) {
	for ahead := range 40 {
		w := &bits.Writer{}
		w.Put(0x5a5a5a5a, ahead)
		w.Put(0x5a5a5a5a, ahead)
		row := text(0x5a5a5a5a, min(ahead, 32)) + text(0x5a5a5a5a, min(ahead, 32))
		first, second := w.Bytes(), w.Bytes()
		spoil(first)
		if string(second) != string(packed(row)) {
			t.Errorf("two answers share memory: %x", second)
		}
		w.Put(3, 3)
		spoil(second)
		holds(t, "an answer is changed", w, row+"011")
		third := w.Bytes()
		w.Put(0xffff, 16)
		if string(third) != string(packed(row+"011")) {
			t.Errorf("an answer changes with the writer: %x", third)
		}
		holds(t, "more is put", w, row+"011"+text(0xffff, 16))
	}
}

// TestObjectsStandAlone: R8; what one is told doesn't show in another.
func TestObjectsStandAlone(t *testing.T) {
	in := []byte("\xa0\x80")
	a, b := bits.Read(in), bits.Read(in)
	c := *b
	a.Take(3)
	a.Fail()
	says(t, "the other reader", b, false, api.ErrRest)
	if b.Take(3) != 5 || b.Take(6) != 1 || b.End() != api.OK {
		t.Error("a reader hangs on another")
	}
	if c.Take(9) != 0x141 || c.End() != api.OK {
		t.Error("a reader's copy hangs on it")
	}
	v, w := &bits.Writer{}, &bits.Writer{}
	v.Put(5, 3)
	w.Put(1, 2)
	v.Put(1, 6)
	w.Put(0x7f, 7)
	holds(t, "one writer", v, "101000001")
	holds(t, "the other writer", w, "011111111")
}
