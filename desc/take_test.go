package desc_test

import (
	"bytes"
	"math"
	"reflect"
	"slices"
	"testing"

	"scriptorium/api"
	"scriptorium/desc"
	"scriptorium/itf"
)

// takesInts, takesArrays: of a reader, a way of either, as anything.
func takesInts(r itf.Reader) any   { return desc.TakeInts(r) }
func takesArrays(r itf.Reader) any { return desc.TakeArrays(r) }

// isTaken: bytes are a way, whatever is behind them; each true beginning is too short.
func isTaken(t *testing.T, take func(itf.Reader) any, in []byte, want any) {
	t.Helper()
	r := itf.Read(append(bytes.Clone(in), 0, 1, 0xff))
	if got := take(r); !reflect.DeepEqual(got, want) || r.Err() != api.OK || r.At() != len(in) || r.Left() != 3 {
		t.Errorf("%v came back as %v, error %d, at %d", want, got, int(r.Err()), r.At())
	}
	for size := range in {
		r := itf.Read(in[:size])
		if got := take(r); !zero(got) || r.Err() != api.ErrShort {
			t.Errorf("%d bytes of %x: %v, error %d", size, in, got, int(r.Err()))
		}
	}
}

// isRefused: bytes end the reader with an error, and there is nothing beside it.
func isRefused(t *testing.T, take func(itf.Reader) any, in []byte, want api.Errno) {
	t.Helper()
	r := itf.Read(in)
	if got := take(r); !zero(got) || r.Err() != want || r.Left() != 0 {
		t.Errorf("%x: %v, error %d, not %d", in, got, int(r.Err()), int(want))
	}
}

// TestTakeBack: P9.2.
func TestTakeBack(t *testing.T) {
	for _, d := range ints() {
		isTaken(t, takesInts, spelt(toldInts(d)...), d)
	}
	for _, d := range arrays() {
		isTaken(t, takesArrays, toldArrays(d), d)
	}
}

// TestWhatDoesNotBelongDoesNotComeBack: P9.2; it isn't put.
func TestWhatDoesNotBelongDoesNotComeBack(t *testing.T) {
	for _, d := range ints() {
		w := &itf.Writer{}
		odd(d).Put(w)
		if got := desc.TakeInts(itf.Read(w.Bytes())); !desc.SameInts(got, d) {
			t.Errorf("%v came back as %v", odd(d), got)
		}
	}
	for _, d := range arrays() {
		w := &itf.Writer{}
		oddArrays(d).Put(w)
		if got := desc.TakeArrays(itf.Read(w.Bytes())); !desc.SameArrays(got, d) {
			t.Errorf("%v came back as %v", oddArrays(d), got)
		}
	}
}

// TestWaysInARow: P9.2; one behind the other, and then an error, behind which nothing is taken.
func TestWaysInARow(t *testing.T) {
	w := &itf.Writer{}
	for _, d := range arrays() {
		d.Put(w)
		d.Ints.Put(w)
	}
	w.Put(spelt(1, 0, 1, 7, 1, 7))
	r := itf.Read(w.Bytes())
	for _, d := range arrays() {
		if got := desc.TakeArrays(r); !desc.SameArrays(got, d) {
			t.Errorf("%v came back as %v", d, got)
		}
		if d.Kind == desc.Count {
			if got := desc.TakeInts(r); !desc.SameInts(got, d.Ints) {
				t.Errorf("%v came back as %v", d.Ints, got)
			}
		}
	}
	for range 3 {
		if a, b := desc.TakeInts(r), desc.TakeArrays(r); !zero(a) || !zero(b) || r.Err() != api.ErrRange || r.Left() != 0 {
			t.Errorf("%v, %v, error %d", a, b, int(r.Err()))
		}
	}
}

// TestTakeIntsErrors: P9.2; each one's border, and which comes first; of bytes' numbers, too.
func TestTakeIntsErrors(t *testing.T) {
	for _, c := range []struct {
		in   []int
		want api.Errno
	}{
		{nil, api.ErrShort},
		{[]int{0}, api.ErrKind},
		{[]int{2}, api.ErrKind},
		{[]int{4, 1, 1, 1}, api.ErrKind},
		{[]int{5, 1, 1}, api.ErrKind},
		{[]int{7}, api.ErrKind},
		{[]int{128}, api.ErrKind},
		{[]int{255}, api.ErrKind},
		{[]int{256}, api.ErrMany},
		{[]int{256 + 1, 7}, api.ErrMany},
		{[]int{256 + 6, 3, 4}, api.ErrMany},
		{[]int{math.MaxUint32}, api.ErrMany},
		{[]int{1}, api.ErrShort},
		{[]int{1, 0}, api.ErrRange},
		{[]int{1, 60001}, api.ErrMany},
		{[]int{1, 65536 + 7}, api.ErrMany},
		{[]int{1, 1 << 31}, api.ErrMany},
		{[]int{1, math.MaxUint32}, api.ErrMany},
		{[]int{6, 0}, api.ErrShort},
		{[]int{6, -1 << 31, 0}, api.ErrRange},
		{[]int{6, -1 << 31}, api.ErrShort},
		{[]int{6, -1 << 31, 32}, api.ErrMany},
		{[]int{6, 0, 32}, api.ErrMany},
		{[]int{6, 0, 256 + 5}, api.ErrMany},
		{[]int{6, 0, math.MaxUint32}, api.ErrMany},
		{[]int{3}, api.ErrShort},
		{[]int{3, 0}, api.ErrMany},
		{[]int{3, 257}, api.ErrMany},
		{[]int{3, 256 + 1 + 1<<16, 5, 0}, api.ErrMany},
		{[]int{3, math.MaxUint32}, api.ErrMany},
		{[]int{3, 1, -1 << 31, 0}, api.ErrRange},
		{[]int{3, 1, 5, 21}, api.ErrMany},
		{[]int{3, 1, 5, 256 + 1}, api.ErrMany},
		{[]int{3, 1, 5, math.MaxUint32}, api.ErrMany},
		{[]int{3, 2, 5, 6, 1, 21}, api.ErrMany},
		{[]int{3, 2, 6, 5, 1, 21}, api.ErrMany},
		{[]int{3, 2, 6, 5, 21}, api.ErrMany},
		{[]int{3, 2, 6, 5, 1}, api.ErrShort},
		{[]int{3, 2, 6, 5, 1, 1}, api.ErrOrder},
		{[]int{3, 2, 5, 5, 1, 1}, api.ErrOrder},
		{[]int{3, 2, 5, -5, 1, 1}, api.ErrOrder},
		{[]int{3, 2, 5, 6, 0, 1}, api.ErrCode},
		{[]int{3, 2, 5, 6, 1, 0}, api.ErrCode},
		{[]int{3, 3, 5, 6, 7, 1, 1, 20}, api.ErrCode},
		{[]int{3, 2, -1 << 31, 6, 0, 0}, api.ErrRange},
	} {
		isRefused(t, takesInts, spelt(c.in...), c.want)
		isRefused(t, takesArrays, append(spelt(4, 9), spelt(c.in...)...), c.want)
	}
}

// TestTakeArraysErrors: P9.2; each one's border, and which comes first.
func TestTakeArraysErrors(t *testing.T) {
	for _, c := range []struct {
		in   []int
		want api.Errno
	}{
		{nil, api.ErrShort},
		{[]int{4}, api.ErrShort},
		{[]int{5, 7}, api.ErrShort},
		{[]int{5, 0, 9}, api.ErrRange},
		{[]int{5, 0}, api.ErrShort},
		{[]int{5, 60001, 9}, api.ErrMany},
		{[]int{5, 65536 + 7, 9}, api.ErrMany},
		{[]int{4, 60001, 1, 7}, api.ErrMany},
		{[]int{4, math.MaxUint32, 1, 7}, api.ErrMany},
		{[]int{4, 0, 1, 7}, api.ErrRange},
		{[]int{4, 0, 2}, api.ErrRange},
		{[]int{4, 0, 3, 2, 5, 5, 1, 1}, api.ErrRange},
		{[]int{4, 0, 1, 60001}, api.ErrMany},
		{[]int{4, 0, 1}, api.ErrShort},
		{[]int{4, 7, 4, 7, 1, 7}, api.ErrKind},
		{[]int{4, 7, 5, 7, 9}, api.ErrKind},
		{[]int{0, 7}, api.ErrKind},
		{[]int{1, 7}, api.ErrKind},
		{[]int{2, 7}, api.ErrKind},
		{[]int{3, 1, 5, 0}, api.ErrKind},
		{[]int{6, 3, 4}, api.ErrKind},
		{[]int{7, 7}, api.ErrKind},
		{[]int{255, 7}, api.ErrKind},
		{[]int{7, 0}, api.ErrRange},
		{[]int{7, 60001}, api.ErrMany},
		{[]int{7}, api.ErrShort},
		{[]int{256}, api.ErrMany},
		{[]int{256 + 4, 9, 1, 7}, api.ErrMany},
		{[]int{256 + 5, 9, 9}, api.ErrMany},
	} {
		isRefused(t, takesArrays, spelt(c.in...), c.want)
	}
}

// TestLongerThanNeeded: P9.2; each number in as few bytes as it needs; Stop isn't a number.
func TestLongerThanNeeded(t *testing.T) {
	for _, l := range [][]int{{1, 7}, {6, 3, 4}, {3, 2, 5, 6, 1, 1}} {
		for i := range l {
			in := slices.Concat(spelt(l[:i]...), []byte{0x80}, spelt(l[i:]...))
			isRefused(t, takesInts, in, api.ErrForm)
			isRefused(t, takesArrays, append(spelt(4, 9), in...), api.ErrForm)
		}
	}
	for i, l := 0, []int{5, 7}; i < len(l); i++ {
		isRefused(t, takesArrays, slices.Concat(spelt(l[:i]...), []byte{0x80}, spelt(l[i:]...), []byte{9}), api.ErrForm)
	}
	isRefused(t, takesInts, []byte("\x06\xff\xff\xff\xff\x1f\x04"), api.ErrForm)
	isTaken(t, takesArrays, []byte("\x05\x07\x80"), stopped(7, 128))
}

// honest: whatever is taken may be, and is put as just those bytes; else there is an error, and nothing is answered.
func honest(t *testing.T, take func(itf.Reader) any, in []byte) bool {
	t.Helper()
	r := itf.Read(in)
	got := take(r)
	if r.Err() != api.OK {
		if !zero(got) {
			t.Fatalf("%x: %v beside error %d", in, got, int(r.Err()))
		}
		return false
	}
	w := &itf.Writer{}
	if e := got.(puts).Put(w); e != api.OK || !bytes.Equal(w.Bytes(), in[:r.At()]) {
		t.Fatalf("%x: %v is put as %x (error %d)", in, got, w.Bytes(), int(e))
	}
	return true
}

// TestTakeOfAnyBytes: P1 and P9.2; ways with a byte or two that differ, and bytes of any kind.
func TestTakeOfAnyBytes(t *testing.T) {
	d := dice(94)
	both := func(in []byte) (taken int) {
		if honest(t, takesInts, in) {
			taken++
		}
		if honest(t, takesArrays, in) {
			taken++
		}
		return taken
	}
	spoil := func(in []byte) {
		for range 40 {
			b := bytes.Clone(in)
			b[d.below(len(b))] = byte(d.below(256))
			both(b)
			b[d.below(len(b))]++
			both(b)
		}
	}
	for _, x := range ints() {
		spoil(spelt(toldInts(x)...))
	}
	for _, x := range arrays() {
		spoil(toldArrays(x))
	}
	taken := 0
	for range 100000 {
		b := make([]byte, d.below(14))
		for i := range b {
			b[i] = byte(d.below(1 + d.below(1+d.below(256))))
		}
		taken += both(b)
	}
	if taken < 1000 {
		t.Errorf("only %d of them were ways", taken)
	}
}
