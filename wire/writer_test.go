package wire_test

import (
	"bytes"
	"math"
	"testing"

	"scriptorium/api"
	"scriptorium/wire"
)

// holds: what a writer must have.
func holds(t *testing.T, what string, w *wire.Writer, want string) {
	t.Helper()
	if got := string(w.Bytes()); got != want || w.Len() != len(want) {
		t.Errorf("%s: %q, %d bytes; want %q", what, got, w.Len(), want)
	}
}

func TestWriterPutsBehindOneAnother(t *testing.T) {
	w := &wire.Writer{}
	holds(t, "nothing put", w, "")
	w.Byte(0)
	holds(t, "Byte", w, "\x00")
	w.Byte(255)
	holds(t, "Byte", w, "\x00\xff")
	w.Put([]byte("xyz"))
	holds(t, "Put", w, "\x00\xffxyz")
	w.Put(nil)
	w.Put([]byte{})
	holds(t, "Put of none", w, "\x00\xffxyz")
	w.Word(513)
	holds(t, "Word", w, "\x00\xffxyz\x01\x02\x00\x00")
	holds(t, "Bytes again", w, "\x00\xffxyz\x01\x02\x00\x00")
}

func TestWriterWordIsTheLowestFirst(t *testing.T) {
	for _, c := range []struct {
		n    uint32
		want string
	}{
		{0, "\x00\x00\x00\x00"},
		{255, "\xff\x00\x00\x00"},
		{256, "\x00\x01\x00\x00"},
		{0x01020304, "\x04\x03\x02\x01"},
		{1 << 31, "\x00\x00\x00\x80"},
		{math.MaxUint32, "\xff\xff\xff\xff"},
	} {
		w := &wire.Writer{}
		w.Word(c.n)
		holds(t, "Word", w, c.want)
	}
}

func TestWhatIsPutIsTaken(t *testing.T) {
	w := &wire.Writer{}
	var words []uint32
	for i := range 32 {
		for d := range uint32(3) {
			words = append(words, uint32(1)<<i-1+d)
		}
	}
	for i, n := range words {
		w.Byte(byte(i))
		w.Word(n)
		w.Put([]byte("name"))
		w.Byte(0)
	}
	r := wire.Read(w.Bytes())
	for i, n := range words {
		if r.Byte() != byte(i) || r.Word() != n || string(r.Until(0)) != "name" {
			t.Fatalf("word %d, %d, isn't taken as it was put", i, n)
		}
	}
	if r.End() != api.OK || r.At() != w.Len() {
		t.Errorf("End is %d at %d of %d", r.End(), r.At(), w.Len())
	}
}

func TestManyBytes(t *testing.T) {
	all := make([]byte, api.MaxBytes)
	for i := range all {
		all[i] = byte(i * 7)
	}
	w := &wire.Writer{}
	for _, c := range all {
		w.Byte(c)
	}
	w.Put(all)
	r := wire.Read(w.Bytes())
	if !bytes.Equal(r.Bytes(len(all)), all) || !bytes.Equal(r.Bytes(len(all)), all) || r.End() != api.OK {
		t.Error("many bytes aren't taken as they were put")
	}
}
