package freq_test

import (
	"bytes"
	"testing"

	"scriptorium/api"
	"scriptorium/freq"
	"scriptorium/itf"
	"scriptorium/wire"
)

// TestReaderOfNothing: R7; without a wire.Reader within it, a Reader has nothing to take.
func TestReaderOfNothing(t *testing.T) {
	r := itf.Reader{}
	if freq.Take(r) != (freq.Table{}) || r.Err() != api.ErrNil {
		t.Error("a table of no reader")
	}
}

// TestTheFirstErrorCounts: a reader that has an error keeps it, and where it stands.
func TestTheFirstErrorCounts(t *testing.T) {
	for _, in := range [][]byte{nil, spelt(1, 0, 4096), spelt(1, 0, 0), spelt(300)} {
		r := itf.Read(append([]byte{9}, in...))
		r.Byte()
		r.Fail(api.ErrName)
		if freq.Take(r) != (freq.Table{}) || r.Err() != api.ErrName || r.At() != 1 {
			t.Errorf("%x: error %d, at %d", in, int(r.Err()), r.At())
		}
	}
}

// TestReaderIsShared: a Reader is a value; what Take takes, and its error, are of the one wire.Reader within it.
func TestReaderIsShared(t *testing.T) {
	below := wire.Read(append(spelt(1, 7, 4096), 5, 0, 1))
	r := itf.Reader{Reader: below}
	if freq.Take(r) != table(map[byte]int{7: 4096}) || below.At() != 4 || below.Byte() != 5 {
		t.Error("a table isn't taken of the reader within")
	}
	if freq.Take(r) != (freq.Table{}) || below.Err() != api.ErrSum || below.Left() != 0 {
		t.Error("its error isn't kept")
	}
}

// TestNothingHandedInIsChanged: R6, spare room included.
func TestNothingHandedInIsChanged(t *testing.T) {
	all := []byte("some bytes, spare room")
	before := bytes.Clone(all)
	got, ok := freq.Of(all[:10])
	if !ok || got[','] != 0 || !bytes.Equal(all, before) {
		t.Errorf("%q became %q", before, all)
	}
	in := counts(map[byte]int{1: 1, 2: 5000})
	x := in
	freq.Scaled(in)
	if in != x {
		t.Error("counts were changed")
	}
	put := table(map[byte]int{2: 4096})
	w := &itf.Writer{}
	put.Put(w)
	put.Starts()
	put.Find(3)
	if put != table(map[byte]int{2: 4096}) {
		t.Error("a table was changed")
	}
}

// TestAnswersHangOnArgumentsAlone: R8; whatever was asked ahead.
func TestAnswersHangOnArgumentsAlone(t *testing.T) {
	ask := func() (all [2]freq.Table) {
		all[0], _ = freq.Of([]byte("aab"))
		all[1] = freq.Take(itf.Read(spelt(2, 0, 1, 9, 4095)))
		return all
	}
	first := ask()
	for _, x := range tables() {
		freq.Scaled(x)
		freq.Take(itf.Read(told(x)[1:]))
		x.Put(&itf.Writer{})
		if ask() != first {
			t.Fatal("answers hang on each other")
		}
	}
}
