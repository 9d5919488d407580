package itf_test

import (
	"math"
	"testing"

	"scriptorium/api"
	"scriptorium/itf"
)

// says: what a reader answered to one call, and what it says of itself then.
func says(t *testing.T, what string, r itf.Reader, got uint64, want answer) {
	t.Helper()
	if (answer{got, r.At(), r.Err()}) != want {
		t.Errorf("%s: %d, at %d, error %d; want %d, %d, %d", what, got, r.At(), int(r.Err()), want.n, want.at, int(want.err))
	}
}

// ended: all further calls answer nothing, and the error stays.
func ended(t *testing.T, what string, r itf.Reader, at int, e api.Errno) {
	t.Helper()
	for range 2 {
		if r.Int() != 0 || r.Signed() != 0 || r.Long() != 0 || r.Byte() != 0 || r.Left() != 0 {
			t.Errorf("%s: something was taken behind the error", what)
		}
		for _, most := range []int{0, -1, 5, math.MinInt, math.MaxInt} {
			if r.Count(most) != 0 {
				t.Errorf("%s: a count behind the error", what)
			}
		}
		says(t, what+", afterwards", r, 0, answer{0, at, e})
		if r.End() != e {
			t.Errorf("%s: End is %d", what, int(r.End()))
		}
	}
}

// TestThereAndBack: P2.2, with bytes behind that stay.
func TestThereAndBack(t *testing.T) {
	for _, n := range samples(math.MaxUint64) {
		w := &itf.Writer{}
		w.Long(n)
		at := w.Len()
		w.Put([]byte{0xff, 0x80})
		r := itf.Read(w.Bytes())
		says(t, "Long", r, r.Long(), answer{n, at, api.OK})
	}
	for _, n := range samples(math.MaxUint32) {
		w := &itf.Writer{}
		w.Int(uint32(n))
		at := w.Len()
		w.Put([]byte{0xff, 0x80})
		r := itf.Read(w.Bytes())
		says(t, "Int", r, uint64(r.Int()), answer{n, at, api.OK})
		r = itf.Read(w.Bytes())
		says(t, "Count", r, uint64(r.Count(math.MaxUint32)), answer{n, at, api.OK})
	}
}

// TestSignedGoesFromBelowNought: P2.2.
func TestSignedGoesFromBelowNought(t *testing.T) {
	for _, c := range []struct{ put, want int }{
		{0, 0}, {1, 1}, {-1, -1}, {127, 127}, {-128, -128}, {300, 300}, {-300, -300},
		{math.MaxInt32, math.MaxInt32}, {math.MinInt32, math.MinInt32},
		{math.MaxInt32 + 1, math.MinInt32}, {math.MinInt32 - 1, math.MaxInt32},
		{math.MaxUint32, -1}, {1 << 32, 0}, {math.MaxInt, -1}, {math.MinInt, 0},
	} {
		w := &itf.Writer{}
		w.Signed(c.put)
		r := itf.Read(w.Bytes())
		if got := r.Signed(); got != c.want || r.End() != api.OK {
			t.Errorf("Signed(%d) comes back as %d (%d), want %d", c.put, got, int(r.End()), c.want)
		}
	}
}

// TestMoreBytesThanNeeded: P2.2; all of the number is taken, and nothing answered.
func TestMoreBytesThanNeeded(t *testing.T) {
	for _, n := range samples(1<<28 - 1) {
		for follow := needInt(n) + 1; follow <= 4; follow++ {
			in := append(speltInt(n, follow), 1, 2, 3)
			for _, call := range []func(r itf.Reader) uint64{
				func(r itf.Reader) uint64 { return uint64(r.Int()) },
				func(r itf.Reader) uint64 { return uint64(r.Signed()) },
				func(r itf.Reader) uint64 { return uint64(r.Count(math.MaxInt)) },
				func(r itf.Reader) uint64 { return uint64(r.Count(-1)) },
			} {
				r := itf.Read(in)
				says(t, "of 32 bits", r, call(r), answer{0, follow + 1, api.ErrForm})
				ended(t, "of 32 bits", r, follow+1, api.ErrForm)
			}
		}
	}
	for _, n := range samples(1<<56 - 1) {
		for follow := needLong(n) + 1; follow <= 8; follow++ {
			r := itf.Read(append(speltLong(n, follow), 1, 2, 3))
			says(t, "of 64 bits", r, r.Long(), answer{0, follow + 1, api.ErrForm})
			ended(t, "of 64 bits", r, follow+1, api.ErrForm)
		}
	}
}

// TestTheFifthByte: P2.2; it has four bits alone.
func TestTheFifthByte(t *testing.T) {
	for last := range 256 {
		want := answer{0xabcdef90 + uint64(last), 5, api.OK}
		if last > 15 {
			want = answer{0, 5, api.ErrForm}
		}
		in := []byte{0xfa, 0xbc, 0xde, 0xf9, byte(last), 0}
		r := itf.Read(in)
		says(t, "Int", r, uint64(r.Int()), want)
		r = itf.Read(in)
		says(t, "Count", r, uint64(r.Count(math.MaxInt)), want)
		r = itf.Read(in)
		if got := r.Signed(); got != int(int32(want.n)) || r.Err() != want.err {
			t.Errorf("Signed of the fifth byte %d: %d, error %d", last, got, int(r.Err()))
		}
	}
}

// TestTooFewBytes: P2.2; each true beginning of a number is too short, and is taken, as a word's is.
func TestTooFewBytes(t *testing.T) {
	for _, n := range samples(math.MaxUint64) {
		in := speltLong(n, needLong(n))
		for size := range in {
			r := itf.Read(in[:size])
			says(t, "Long", r, r.Long(), answer{0, size, api.ErrShort})
			ended(t, "Long", r, size, api.ErrShort)
		}
	}
	for _, n := range samples(math.MaxUint32) {
		in := speltInt(n, needInt(n))
		for size := range in {
			r := itf.Read(in[:size])
			says(t, "Int", r, uint64(r.Int()), answer{0, size, api.ErrShort})
			ended(t, "Int", r, size, api.ErrShort)
			r = itf.Read(in[:size])
			says(t, "Signed", r, uint64(r.Signed()), answer{0, size, api.ErrShort})
			r = itf.Read(in[:size])
			says(t, "Count", r, uint64(r.Count(-1)), answer{0, size, api.ErrShort})
		}
	}
}

// TestCountAtMost: P2.2.
func TestCountAtMost(t *testing.T) {
	for _, n := range []uint64{0, 1, 127, 128, 300, 1 << 28, 1<<31 - 1, 1 << 31, math.MaxUint32} {
		in := append(speltInt(n, needInt(n)), 9)
		at := len(in) - 1
		for _, most := range []int{math.MinInt, -1, 0, 1, 299, 300, 301, int(n) - 1, int(n), int(n) + 1, math.MaxInt32, math.MaxUint32, math.MaxInt} {
			r := itf.Read(in)
			got := uint64(r.Count(most))
			if int(n) <= most {
				says(t, "Count", r, got, answer{n, at, api.OK})
				continue
			}
			says(t, "Count", r, got, answer{0, at, api.ErrMany})
			ended(t, "Count", r, at, api.ErrMany)
		}
	}
}

// TestEveryBeginning: P1 and P2.2: all first bytes, with bytes behind them that lie at the edges.
func TestEveryBeginning(t *testing.T) {
	tail := []byte{0, 1, 15, 16, 0x7f, 0x80, 0xff}
	for first := range 256 {
		follow(t, []byte{byte(first)}, tail, 4)
		for _, c := range tail {
			for n := range 8 {
				in := append([]byte{byte(first)}, make([]byte, 8)...)
				in[1+n] = c
				same(t, in)
				same(t, in[:n+1])
				for i := n + 1; i < 8; i++ {
					in[1+i] = 0xff
				}
				same(t, in)
			}
		}
	}
	same(t, nil)
}

// follow tries the bytes, and all of them with up to so many of the tail's behind.
func follow(t *testing.T, in, tail []byte, depth int) {
	same(t, in)
	if depth == 0 {
		return
	}
	for _, c := range tail {
		follow(t, append(in[:len(in):len(in)], c), tail, depth-1)
	}
}

// same: the next number of the bytes is what the chapter's words make of them.
func same(t *testing.T, in []byte) {
	t.Helper()
	for _, c := range []struct {
		call func(r itf.Reader) uint64
		want answer
	}{
		{itf.Reader.Long, toldLong(in)},
		{func(r itf.Reader) uint64 { return uint64(r.Int()) }, toldInt(in)},
	} {
		r := itf.Read(in)
		got := answer{c.call(r), r.At(), r.Err()}
		if got != c.want {
			t.Fatalf("%x: %d, at %d, error %d; want %d, %d, %d", in, got.n, got.at, int(got.err), c.want.n, c.want.at, int(c.want.err))
		}
	}
}
