package desc_test

import (
	"bytes"
	"math"
	"reflect"
	"slices"
	"testing"

	"scriptorium/api"
	"scriptorium/desc"
	"scriptorium/huff"
	"scriptorium/itf"
	"scriptorium/wire"
)

// TestReaderOfNothing: R7; without a wire.Reader within it, a Reader has nothing to take.
func TestReaderOfNothing(t *testing.T) {
	r := itf.Reader{}
	if !zero(desc.TakeInts(r)) || !zero(desc.TakeArrays(r)) || r.Err() != api.ErrNil {
		t.Error("a way of no reader")
	}
}

// TestTheFirstErrorCounts: a reader that has an error keeps it, and where it stands.
func TestTheFirstErrorCounts(t *testing.T) {
	for _, in := range [][]byte{nil, spelt(1, 7), spelt(5, 7, 9), spelt(2), spelt(3, 300)} {
		for _, take := range []func(itf.Reader) any{takesInts, takesArrays} {
			r := itf.Read(append([]byte{9}, in...))
			r.Byte()
			r.Fail(api.ErrName)
			if got := take(r); !zero(got) || r.Err() != api.ErrName || r.At() != 1 {
				t.Errorf("%x: %v, error %d, at %d", in, got, int(r.Err()), r.At())
			}
		}
	}
}

// TestReaderIsShared: a Reader is a value; what is taken, and its error, are of the one wire.Reader within it.
func TestReaderIsShared(t *testing.T) {
	below := wire.Read(spelt(1, 7, 5, 2))
	r := itf.Reader{Reader: below}
	if !desc.SameInts(desc.TakeInts(r), outside(7)) || below.At() != 2 || below.Byte() != 5 {
		t.Error("a way isn't taken of the reader within")
	}
	if !zero(desc.TakeInts(r)) || below.Err() != api.ErrKind || below.Left() != 0 {
		t.Error("its error isn't kept")
	}
}

// TestNothingHandedInIsChanged: R6, spare room included, of ways that may be and of others.
func TestNothingHandedInIsChanged(t *testing.T) {
	for _, l := range [][]huff.Entry{entries(1, 2, 5, 2, 6, 1), entries(5, 1, 1, 1), entries(1, 21), many(256, 8), many(257, 8)} {
		all := append(slices.Clone(l), entries(77, 7, 78, 8)...)
		before := slices.Clone(all)
		d := words(all[:len(l)])
		a := counted(3, d)
		for range 2 {
			d.Check()
			a.Check()
			d.Put(&itf.Writer{})
			a.Put(&itf.Writer{})
			desc.SameInts(d, d)
			desc.SameArrays(a, a)
		}
		if !slices.Equal(all, before) || len(d.Entries) != len(l) || len(a.Entries) != len(l) {
			t.Errorf("%v was changed to %v", before, all)
		}
	}
}

// TestAnswersAreNewMemory: R6; two ways of the same bytes share none.
func TestAnswersAreNewMemory(t *testing.T) {
	want := words(entries(1, 2, 5, 2, 6, 1))
	in := spelt(toldInts(want)...)
	before := bytes.Clone(in)
	a, b := desc.TakeInts(itf.Read(in)), desc.TakeInts(itf.Read(in))
	whole := a.Entries[:cap(a.Entries)]
	for i := range whole {
		whole[i] = huff.Entry{Symbol: 99, Size: 99}
	}
	if !desc.SameInts(b, want) || !bytes.Equal(in, before) {
		t.Errorf("two answers share memory: %v", b)
	}
}

// TestAnswersHangOnArgumentsAlone: R8; whatever was asked ahead.
func TestAnswersHangOnArgumentsAlone(t *testing.T) {
	ask := func() []any {
		w := &itf.Writer{}
		d := counted(9, words(entries(1, 1, 5, 1)))
		e := d.Put(w)
		return []any{w.Bytes(), e, d.Check(), desc.TakeArrays(itf.Read(w.Bytes())), desc.TakeInts(itf.Read(spelt(1, 7)))}
	}
	first := ask()
	for _, d := range arrays() {
		w := &itf.Writer{}
		d.Put(w)
		desc.TakeArrays(itf.Read(w.Bytes()))
		desc.TakeInts(itf.Read(w.Bytes()[1:]))
		if !reflect.DeepEqual(ask(), first) {
			t.Fatal("answers hang on each other")
		}
	}
}

// TestAnyWay: P1; of numbers of any size no call comes down, and what Check says Put says, too; what is put is taken as it was.
func TestAnyWay(t *testing.T) {
	d := dice(97)
	edges := []int{math.MinInt, -1 << 32, -1 << 31, 1 - 1<<31, -1, 0, 1, 2, 20, 21, 31, 32, 256, 257, 60000, 60001, 1<<31 - 1, 1 << 31, 1 << 32, math.MaxInt}
	edge := func() int { return edges[d.below(len(edges))] }
	ways := func() desc.Ints {
		x := desc.Ints{Kind: desc.Kind(d.below(8)), Block: edge(), Least: edge(), Bits: edge()}
		for range d.below(4) {
			x.Entries = append(x.Entries, huff.Entry{Symbol: edge(), Size: edge()})
		}
		return x
	}
	right := 0
	for range 50000 {
		x := desc.Arrays{Ints: ways(), Kind: desc.Kind(d.below(8)), Block: edge(), Stop: byte(d.below(256))}
		for _, way := range []interface {
			puts
			Check() api.Errno
		}{x, x.Ints} {
			w := &itf.Writer{}
			want := way.Check()
			if e := way.Put(w); e != want || (w.Len() == 0) != (e != api.OK) {
				t.Fatalf("%v: Check %d, Put %d, %d bytes", way, int(want), int(e), w.Len())
			}
			if want == api.OK {
				right++
				r := itf.Read(w.Bytes())
				if _, isArrays := way.(desc.Arrays); isArrays {
					desc.TakeArrays(r)
				} else {
					desc.TakeInts(r)
				}
				if e := r.End(); e != api.OK {
					t.Fatalf("%v: what was put ends with error %d", way, int(e))
				}
			}
		}
		if !desc.SameInts(x.Ints, x.Ints) || !desc.SameArrays(x, x) {
			t.Fatalf("%v isn't the same", x)
		}
	}
	if right < 500 {
		t.Errorf("only %d may be", right)
	}
}
