package rans_test

import (
	"bytes"
	"math"
	"testing"

	"scriptorium/api"
	"scriptorium/itf"
	"scriptorium/rans"
)

// steps: P7.1, number by number: a state, a byte's parts, the state behind them, and what goes out.
func steps() []struct {
	s            rans.State
	start, parts int
	next         rans.State
	out          string
} {
	return []struct {
		s            rans.State
		start, parts int
		next         rans.State
		out          string
	}{
		{1 << 23, 0, 4096, 1 << 23, ""},
		{1<<31 - 1, 0, 4096, 1<<31 - 1, ""},
		{1 << 23, 0, 2048, 1 << 24, ""},
		{1 << 23, 2048, 2048, 1<<24 + 2048, ""},
		{1<<23 + 5, 7, 3, 10922*4096 + 2 + 7, "\x05"},
		{1<<30 - 1, 100, 2048, 524287*4096 + 2047 + 100, ""},
		{1 << 30, 100, 2048, 2048*4096 + 100, "\x00"},
		{1 << 23, 5, 1, 32768*4096 + 5, "\x00"},
		{1<<27 - 1, 4095, 1, 524287*4096 + 4095, "\xff"},
		{1 << 27, 4095, 1, 2048*4096 + 4095, "\x00\x00"},
		{0x7fabcdef, 0, 1, 0x7fab * 4096, "\xef\xcd"},
		{1<<31 - 1, 0, 4095, 2048*4096 + 2047, "\xff"},
	}
}

// TestStatePut: P7.1; what goes out goes behind what is there.
func TestStatePut(t *testing.T) {
	for _, c := range steps() {
		out := []byte("ahead")
		if got := c.s.Put(c.start, c.parts, &out); got != c.next || string(out) != "ahead"+c.out {
			t.Errorf("%d with %d, %d: %d, %x; want %d, %x", c.s, c.start, c.parts, got, out, c.next, "ahead"+c.out)
		}
	}
}

// TestStateTake: P7.1; the bytes come back the last first, and what is behind them stays.
func TestStateTake(t *testing.T) {
	for _, c := range steps() {
		in := rans.Turned([]byte("z" + c.out))
		r := itf.Read(in)
		if got := c.next.Take(c.start, c.parts, r); got != c.s || r.Err() != api.OK || r.Left() != 1 {
			t.Errorf("%d with %d, %d: %d, not %d; %d left", c.next, c.start, c.parts, got, c.s, r.Left())
		}
	}
}

// TestStateAgainstTheModel: P7.1; there and back, from all kinds of states, with all kinds of parts; what comes of a state that may be may be.
func TestStateAgainstTheModel(t *testing.T) {
	for _, s := range within() {
		for _, p := range spans() {
			next, gone := step(s, p.start, p.parts)
			var out []byte
			got := rans.State(s).Put(p.start, p.parts, &out)
			if int(got) != next || !bytes.Equal(out, gone) {
				t.Fatalf("%d with %v: %d, %x; want %d, %x", s, p, got, out, next, gone)
			}
			if next < 1<<23 || next >= 1<<31 {
				t.Fatalf("%d with %v: %d is none", s, p, next)
			}
			r := itf.Read(append(rans.Turned(out), 9))
			if back := got.Take(p.start, p.parts, r); int(back) != s || r.At() != len(out) || r.Err() != api.OK {
				t.Fatalf("%d with %v: %d came back, at %d, error %d", s, p, back, r.At(), int(r.Err()))
			}
		}
	}
}

// TestStateTakeIsTooShort: P7.1; beside the reader's error there is no state (R3).
func TestStateTakeIsTooShort(t *testing.T) {
	for _, c := range steps() {
		for size := range len(c.out) {
			r := itf.Read(rans.Turned([]byte(c.out))[:size])
			if got := c.next.Take(c.start, c.parts, r); got != 0 || r.Err() != api.ErrShort || r.At() != size {
				t.Errorf("%d with %d, %d of %d bytes: %d, error %d", c.next, c.start, c.parts, size, got, int(r.Err()))
			}
		}
	}
}

// TestStateOfOthers: P1; other states and parts end, too, and are the same each time (R8).
func TestStateOfOthers(t *testing.T) {
	numbers := []int{math.MinInt, -1 << 32, -4096, -1, 0, 1, 2, 4095, 4096, 4097, 8192, 1 << 19, 1 << 20, 1 << 31, 1 << 32, 1<<32 + 1, 1 << 44, math.MaxInt}
	for _, s := range []rans.State{0, 1, 4095, 4096, 1<<19 - 1, 1 << 19, 1<<23 - 1, 1 << 23, 1<<31 - 1, 1 << 31, math.MaxUint32} {
		for _, start := range numbers {
			for _, parts := range numbers {
				var one, two []byte
				a, b := s.Put(start, parts, &one), s.Put(start, parts, &two)
				if a != b || !bytes.Equal(one, two) || len(one) > 4 {
					t.Fatalf("%d with %d, %d: %d, %d; %x, %x", s, start, parts, a, b, one, two)
				}
				for _, in := range []string{"", "\x00\x00\x00", "\x00\x00\x00\x00\x00\x00\x00\x00\x01", "\xff\xff\xff\xff\xff"} {
					r, q := itf.Read([]byte(in)), itf.Read([]byte(in))
					a, b := s.Take(start, parts, r), s.Take(start, parts, q)
					if a != b || r.At() != q.At() || r.Err() != q.Err() || r.Err() != api.OK && a != 0 {
						t.Fatalf("%d with %d, %d of %x: %d, %d", s, start, parts, in, a, b)
					}
				}
			}
		}
	}
}

// TestNew: P7.1; four of 2^23.
func TestNew(t *testing.T) {
	if rans.New() != (rans.Four{8388608, 8388608, 8388608, 8388608}) {
		t.Errorf("%v", rans.New())
	}
	// One that was changed is not the next one's.
	f := rans.New()
	f[2] = 1
	if rans.New() != four(least()) {
		t.Error("New hands out one and the same")
	}
}

// TestFourPut: P7.1; four words, the first first, whatever they are.
func TestFourPut(t *testing.T) {
	for _, c := range []struct {
		f    rans.Four
		want string
	}{
		{rans.New(), "\x00\x00\x80\x00\x00\x00\x80\x00\x00\x00\x80\x00\x00\x00\x80\x00"},
		{rans.Four{0x01020304, 0x05060708, 0x090a0b0c, 0x0d0e0f10}, "\x04\x03\x02\x01\x08\x07\x06\x05\x0c\x0b\x0a\x09\x10\x0f\x0e\x0d"},
		{rans.Four{0, 1, math.MaxUint32, 1 << 31}, "\x00\x00\x00\x00\x01\x00\x00\x00\xff\xff\xff\xff\x00\x00\x00\x80"},
	} {
		w := &itf.Writer{}
		w.Byte(77)
		c.f.Put(w)
		if string(w.Bytes()) != "\x4d"+c.want {
			t.Errorf("%v: %x", c.f, w.Bytes())
		}
	}
}

// TestStart: P7.1; four words, and what is behind them stays.
func TestStart(t *testing.T) {
	all := within()
	for i := range all[3:] {
		f := [4]int(all[i:])
		r := itf.Read(append(states(f), 1, 2))
		if got := rans.Start(r); got != four(f) || r.Err() != api.OK || r.At() != 16 || r.Left() != 2 {
			t.Errorf("%v: %v, error %d, at %d", f, got, int(r.Err()), r.At())
		}
		for size := range 16 {
			r := itf.Read(states(f)[:size])
			if got := rans.Start(r); got != (rans.Four{}) || r.Err() != api.ErrShort {
				t.Errorf("%d bytes of %v: %v, error %d", size, f, got, int(r.Err()))
			}
		}
	}
}

// TestStartErrors: P7.1; ErrRange of any one of the four, whichever end it is beyond; words that are missing count first.
func TestStartErrors(t *testing.T) {
	for _, wrong := range []int{0, 1, 1<<23 - 1, 1 << 31, 1<<31 + 1<<23, math.MaxUint32} {
		for i := range 4 {
			f := least()
			f[i] = wrong
			r := itf.Read(append(states(f), 1, 2))
			if got := rans.Start(r); got != (rans.Four{}) || r.Err() != api.ErrRange || r.Left() != 0 {
				t.Errorf("%v: %v, error %d", f, got, int(r.Err()))
			}
			r = itf.Read(states(f)[:15])
			if got := rans.Start(r); got != (rans.Four{}) || r.Err() != api.ErrShort {
				t.Errorf("15 bytes of %v: %v, error %d", f, got, int(r.Err()))
			}
		}
	}
}

// TestTurned: P7.1; the last one first.
func TestTurned(t *testing.T) {
	for in, want := range map[string]string{"": "", "a": "a", "ab": "ba", "abc": "cba", "\x00\xff\x00\x01": "\x01\x00\xff\x00"} {
		if got := rans.Turned([]byte(in)); string(got) != want {
			t.Errorf("%q turned is %q", in, got)
		}
	}
	if len(rans.Turned(nil)) != 0 {
		t.Error("nothing turned is something")
	}
}
