package wire_test

import (
	"math"
	"testing"

	"scriptorium/api"
	"scriptorium/wire"
)

// state: what a reader must say of itself.
func state(t *testing.T, what string, r *wire.Reader, at, left int, e api.Errno) {
	t.Helper()
	if r.At() != at || r.Left() != left || r.Err() != e {
		t.Errorf("%s: at %d, left %d, error %d; want %d, %d, %d", what, r.At(), r.Left(), r.Err(), at, left, e)
	}
}

// ended: all further calls take nothing and answer nothing, and the error stays.
func ended(t *testing.T, what string, r *wire.Reader, at int, e api.Errno) {
	t.Helper()
	state(t, what, r, at, 0, e)
	for range 2 {
		if r.Byte() != 0 || r.Word() != 0 || len(r.Bytes(0)) != 0 || len(r.Bytes(1)) != 0 || len(r.Bytes(-1)) != 0 || len(r.Until('a')) != 0 {
			t.Errorf("%s: something was taken behind the error", what)
		}
		if r.End() != e {
			t.Errorf("%s: End is %d, want %d", what, r.End(), e)
		}
		r.Fail(api.ErrForm)
		state(t, what+", afterwards", r, at, 0, e)
	}
}

func TestByteTakesFromTheFirstOn(t *testing.T) {
	in := []byte{7, 0, 255}
	r := wire.Read(in)
	for i, c := range in {
		state(t, "ahead", r, i, len(in)-i, api.OK)
		if got := r.Byte(); got != c {
			t.Errorf("byte %d is %d, want %d", i, got, c)
		}
	}
	state(t, "all taken", r, 3, 0, api.OK)
	if r.Byte() != 0 {
		t.Error("a byte behind the last one")
	}
	ended(t, "Byte of none", r, 3, api.ErrShort)
}

func TestBytesTakesSoMany(t *testing.T) {
	r := wire.Read([]byte("abcdef"))
	for _, c := range []struct {
		n    int
		want string
		at   int
	}{{2, "ab", 2}, {0, "", 2}, {1, "c", 3}, {3, "def", 6}, {0, "", 6}} {
		if got := string(r.Bytes(c.n)); got != c.want {
			t.Errorf("Bytes(%d) is %q, want %q", c.n, got, c.want)
		}
		state(t, "Bytes", r, c.at, 6-c.at, api.OK)
	}
}

func TestBytesTakesNoneIfThereAreFewer(t *testing.T) {
	for _, n := range []int{4, 5, 1 << 32, math.MaxInt, -1, math.MinInt} {
		r := wire.Read([]byte("abcdef"))
		r.Bytes(3)
		if got := r.Bytes(n); len(got) != 0 {
			t.Errorf("Bytes(%d) of three is %q", n, got)
		}
		ended(t, "Bytes of too many", r, 3, api.ErrShort)
	}
}

func TestUntilTakesUpToTheFirstStop(t *testing.T) {
	r := wire.Read([]byte("ab\x00\x00c\xffd\x00"))
	for _, c := range []struct {
		stop byte
		want string
		at   int
	}{{0, "ab", 3}, {0, "", 4}, {255, "c", 6}, {0, "d", 8}} {
		if got := string(r.Until(c.stop)); got != c.want {
			t.Errorf("Until(%d) is %q, want %q", c.stop, got, c.want)
		}
		state(t, "Until", r, c.at, 8-c.at, api.OK)
	}
	if r.End() != api.OK {
		t.Error("the last stop isn't taken")
	}
}

func TestUntilTakesNoneWithoutAStop(t *testing.T) {
	for _, in := range []string{"x", "xbc", "xbcd"} {
		r := wire.Read([]byte(in))
		r.Byte()
		// The stop among the bytes that were taken ahead doesn't count.
		if got := r.Until('x'); len(got) != 0 {
			t.Errorf("Until of %q is %q", in, got)
		}
		ended(t, "Until without a stop", r, 1, api.ErrShort)
	}
}

func TestWordIsFourBytesTheLowestFirst(t *testing.T) {
	for _, c := range []struct {
		in   string
		want uint32
	}{
		{"\x01\x02\x00\x00", 513},
		{"\x04\x03\x02\x01", 0x01020304},
		{"\x00\x00\x00\x80", 1 << 31},
		{"\xff\xff\xff\xff", math.MaxUint32},
		{"\x00\x00\x00\x00", 0},
	} {
		r := wire.Read([]byte(c.in + "z"))
		if got := r.Word(); got != c.want {
			t.Errorf("Word of %x is %d, want %d", c.in, got, c.want)
		}
		state(t, "Word", r, 4, 1, api.OK)
	}
}

func TestWordTakesWhatThereIsAheadOfTheError(t *testing.T) {
	for n := range 4 {
		r := wire.Read([]byte{9, 1, 2, 3}[:n+1])
		r.Byte()
		// Nought, though bytes were taken: beside an error a result is its zero value.
		if got := r.Word(); got != 0 {
			t.Errorf("Word of %d bytes is %d", n, got)
		}
		ended(t, "Word of too few", r, n+1, api.ErrShort)
	}
}

func TestFailIsKeptIfThereIsNoError(t *testing.T) {
	for _, e := range []api.Errno{api.ErrNil, api.ErrShort, api.ErrRest, api.ErrEnd, 24, -1, math.MaxInt, math.MinInt} {
		r := wire.Read([]byte("abcdefgh"))
		r.Byte()
		r.Fail(e)
		ended(t, "Fail", r, 1, e)
	}
}

func TestFailWithNoErrorIsNone(t *testing.T) {
	r := wire.Read([]byte("ab"))
	r.Fail(api.OK)
	state(t, "Fail(OK)", r, 0, 2, api.OK)
	if r.Byte() != 'a' {
		t.Error("Fail(OK) ended it")
	}
	r.Fail(api.ErrSum)
	r.Fail(api.OK)
	ended(t, "Fail(OK) behind an error", r, 1, api.ErrSum)
}

func TestTheFirstErrorCounts(t *testing.T) {
	r := wire.Read([]byte("ab"))
	r.Bytes(3)
	r.Fail(api.ErrForm)
	ended(t, "ErrShort, then Fail", r, 0, api.ErrShort)
	r = wire.Read(nil)
	r.Fail(api.ErrForm)
	r.Byte()
	ended(t, "Fail, then Byte of none", r, 0, api.ErrForm)
}

func TestEndTellsTheRestAndKeepsNothing(t *testing.T) {
	r := wire.Read([]byte("ab"))
	for range 2 {
		if r.End() != api.ErrRest {
			t.Errorf("End with two left is %d", r.End())
		}
		state(t, "End", r, 0, 2, api.OK)
	}
	if string(r.Bytes(2)) != "ab" || r.End() != api.OK {
		t.Error("ErrRest was kept")
	}
	if wire.Read(nil).End() != api.OK {
		t.Error("End of no bytes")
	}
}
