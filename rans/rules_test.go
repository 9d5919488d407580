package rans_test

import (
	"bytes"
	"testing"

	"scriptorium/api"
	"scriptorium/itf"
	"scriptorium/rans"
	"scriptorium/wire"
)

// TestNilDoesNothing: R7.
func TestNilDoesNothing(t *testing.T) {
	for _, s := range within() {
		for _, p := range spans() {
			if got := rans.State(s).Put(p.start, p.parts, nil); got != 0 {
				t.Fatalf("%d with %v, out to nowhere: %d", s, p, got)
			}
		}
	}
	rans.New().Put(nil)
	r := itf.Reader{}
	if rans.Start(r) != (rans.Four{}) || r.Err() != api.ErrNil {
		t.Error("states of no reader")
	}
	for _, c := range steps() {
		if got := c.next.Take(c.start, c.parts, r); got != 0 || r.Err() != api.ErrNil {
			t.Errorf("%d of no reader: %d", c.next, got)
		}
	}
}

// TestTheFirstErrorCounts: a reader that has an error keeps it, and where it stands.
func TestTheFirstErrorCounts(t *testing.T) {
	for _, in := range [][]byte{nil, states(least()), make([]byte, 16)} {
		r := itf.Read(append([]byte{9}, in...))
		r.Byte()
		r.Fail(api.ErrName)
		if rans.Start(r) != (rans.Four{}) || r.Err() != api.ErrName || r.At() != 1 {
			t.Errorf("%x: error %d, at %d", in, int(r.Err()), r.At())
		}
		for _, c := range steps() {
			if got := c.next.Take(c.start, c.parts, r); got != 0 || r.Err() != api.ErrName || r.At() != 1 {
				t.Errorf("%d behind an error: %d, error %d", c.next, got, int(r.Err()))
			}
		}
	}
}

// TestReaderIsShared: a Reader is a value; what is taken, and its error, are of the one wire.Reader within it.
func TestReaderIsShared(t *testing.T) {
	below := wire.Read(append(states(least()), 5, 6))
	r := itf.Reader{Reader: below}
	if rans.Start(r) != rans.New() || below.At() != 16 {
		t.Error("states aren't taken of the reader within")
	}
	if rans.State(32768*4096+5).Take(5, 1, r) != 1<<23+5 || below.At() != 17 {
		t.Error("a byte isn't taken of the reader within")
	}
	if rans.Start(r) != (rans.Four{}) || below.Err() != api.ErrShort {
		t.Error("its error isn't kept")
	}
}

// TestNothingIsShared: R6; what is handed in isn't changed, spare room included, and no answer is of its memory.
func TestNothingIsShared(t *testing.T) {
	const text = "some bytes, spare room"
	all := []byte(text)
	answers := [][]byte{rans.Put(all[:10]), rans.Turned(all[:10]), rans.Turned(all[:1])}
	if string(all) != text {
		t.Errorf("%q became %q", text, all)
	}
	packed := append(rans.Put([]byte(text)), "spare"...)
	before := bytes.Clone(packed)
	back, e := rans.Take(packed[:len(packed)-5], 100)
	if e != api.OK || string(back) != text || !bytes.Equal(packed, before) {
		t.Errorf("%x became %x (%d)", before, packed, int(e))
	}
	for _, b := range append(answers, back) {
		whole := b[:cap(b)]
		for i := range whole {
			whole[i] = '!'
		}
	}
	if string(all) != text || !bytes.Equal(packed, before) {
		t.Error("an answer is of the memory of what was handed in")
	}
	f := rans.New()
	f.Put(&itf.Writer{})
	s := f[0]
	s.Put(0, 1, &[]byte{})
	s.Take(0, 1, itf.Read([]byte("abcd")))
	if f != rans.New() || s != 1<<23 {
		t.Error("states were changed")
	}
}

// TestNilAndEmpty: R5.
func TestNilAndEmpty(t *testing.T) {
	for _, b := range [][]byte{nil, {}} {
		if got := rans.Put(b); string(got) != "\x00" {
			t.Errorf("no bytes: %x", got)
		}
		if got, e := rans.Take(b, 10); e == api.OK || len(got) != 0 {
			t.Errorf("no bytes, not even how many: %x, error %d", got, int(e))
		}
	}
	for _, out := range [][]byte{nil, {}} {
		if rans.State(1<<23).Put(5, 1, &out) != 32768*4096+5 || string(out) != "\x00" {
			t.Errorf("%x went out", out)
		}
	}
}

// TestAnswersHangOnArgumentsAlone: R8; whatever was asked ahead.
func TestAnswersHangOnArgumentsAlone(t *testing.T) {
	ask := func() string {
		b := rans.Put([]byte("abbcbbcba"))
		back, _ := rans.Take(b, 9)
		return string(b) + string(back)
	}
	first := ask()
	for _, b := range samples() {
		in := rans.Put(b)
		rans.Take(in, len(b))
		rans.Take(in[1:], len(b))
		if ask() != first {
			t.Fatal("answers hang on each other")
		}
	}
}
