package rans_test

import (
	"bytes"
	"math"
	"strings"
	"testing"

	"scriptorium/api"
	"scriptorium/freq"
	"scriptorium/itf"
	"scriptorium/rans"
)

// refused: Take answers an error, and nothing beside it.
func refused(t *testing.T, what string, in []byte) {
	t.Helper()
	if got, e := rans.Take(in, api.MaxBlock); e == api.OK || len(got) != 0 {
		t.Errorf("%s: %x is taken as %q (error %d)", what, in, got, int(e))
	}
}

// TestPut: P7.2, byte by byte.
func TestPut(t *testing.T) {
	least := "\x00\x00\x80\x00"
	for _, c := range []struct{ in, want string }{
		{"", "\x00"},
		{"a", "\x01" + "\x01\x61\x90\x00" + least + least + least + least},
		{"\xff\xff\xff\xff\xff", "\x05" + "\x01\x80\xff\x90\x00" + least + least + least + least},
		// The i-th byte is of state i modulo 4, the first being 0.
		{"ab", "\x02" + "\x02\x61\x88\x00\x00\x88\x00" + "\x00\x00\x00\x01" + "\x00\x08\x00\x01" + least + least},
		{"abab", "\x04" + "\x02\x61\x88\x00\x00\x88\x00" + "\x00\x00\x00\x01" + "\x00\x08\x00\x01" + "\x00\x00\x00\x01" + "\x00\x08\x00\x01"},
		// The fifth goes into the state of the first, ahead of it.
		{"abbba", "\x05" + "\x02\x61\x86\x66\x00\x89\x9a" + "\x9c\x55\x20\x03" + "\xde\x4d\xd5\x00" + "\xde\x4d\xd5\x00" + "\xde\x4d\xd5\x00"},
		{strings.Repeat("abbcbbcba", 3), "\x1b" + "\x03\x61\x83\x8e\x00\x88\xe4\x00\x83\x8e" + "\xd3\xf1\xab\x04" + "\x94\x2a\xde\x01" + "\x49\x58\xde\x01" + "\x6e\x5e\x41\x6a" + "\xfa\x94\x68"},
	} {
		if got := rans.Put([]byte(c.in)); string(got) != c.want {
			t.Errorf("%q: %x, not %x", c.in, got, c.want)
		}
	}
}

// TestPutAgainstTheModel: P7.2.
func TestPutAgainstTheModel(t *testing.T) {
	for _, b := range samples() {
		if got := rans.Put(b); !bytes.Equal(got, put(b)) {
			t.Errorf("%x: %x, not %x", b, got, put(b))
		}
	}
}

// TestTakeBack: P7.2; of as many as there are, and of more; one fewer is ErrMany.
func TestTakeBack(t *testing.T) {
	for _, b := range samples() {
		in := put(b)
		for _, most := range []int{len(b), len(b) + 1, api.MaxBlock, math.MaxInt} {
			if got, e := rans.Take(in, most); e != api.OK || !bytes.Equal(got, b) {
				t.Errorf("%x came back as %x, error %d, of at most %d", b, got, int(e), most)
			}
		}
		for _, most := range []int{len(b) - 1, 0, -1, math.MinInt} {
			want := api.ErrMany
			if len(b) == 0 {
				want = api.OK
			}
			if got, e := rans.Take(in, most); e != want || len(got) != 0 {
				t.Errorf("%x came back as %x, error %d, of at most %d", b, got, int(e), most)
			}
		}
	}
}

// TestTakeOfTheMost: P7.2; 8388608 bytes at most, however many may be.
func TestTakeOfTheMost(t *testing.T) {
	b := bytes.Repeat([]byte{'x'}, 8388609)
	for _, most := range []int{8388608, 8388609, math.MaxInt} {
		if got, e := rans.Take(rans.Put(b[:8388608]), most); e != api.OK || !bytes.Equal(got, b[:8388608]) {
			t.Errorf("at most %d: 8388608 bytes came back as %d, error %d", most, len(got), int(e))
		}
		if got, e := rans.Take(rans.Put(b), most); e != api.ErrMany || len(got) != 0 {
			t.Errorf("at most %d: 8388609 bytes came back as %d, error %d", most, len(got), int(e))
		}
	}
}

// TestManyIsAheadOfTheRest: P7.2; how many comes first, whatever is behind it.
func TestManyIsAheadOfTheRest(t *testing.T) {
	for _, n := range []int{11, 300, 1 << 28, math.MaxUint32} {
		for _, rest := range []string{"", "\x00", "\x01\x00\x00"} {
			if got, e := rans.Take(append(number(n), rest...), 10); e != api.ErrMany || len(got) != 0 {
				t.Errorf("%d: %x, error %d", n, got, int(e))
			}
		}
	}
}

// TestCutAndMore: P7.2; no beginning is whole, and nothing may be behind.
func TestCutAndMore(t *testing.T) {
	for _, b := range samples() {
		in := put(b)
		for size := max(0, len(in)-300); size < len(in); size++ {
			refused(t, "a beginning", in[:size])
		}
		for c := range 256 {
			refused(t, "more behind", append(bytes.Clone(in), byte(c)))
		}
		refused(t, "twice", append(bytes.Clone(in), in...))
	}
}

// TestOtherTables: P7.2; a table that isn't the bytes' own is none of Put's, though the bytes could be told by it.
func TestOtherTables(t *testing.T) {
	d := dice(9)
	for _, b := range samples() {
		own, ok := freq.Of(b)
		if !ok {
			continue
		}
		for range 10 {
			other := own
			from, to := d.below(256), d.below(256)
			for own[from] < 2 {
				from = d.below(256)
			}
			n := 1 + d.below(own[from]-1)
			other[from] -= n
			other[to] += n
			if other != own {
				refused(t, "another table", made(b, other, least()))
			}
		}
	}
}

// TestOtherStates: P7.2; Put begins with the least states: what others lead to is none of its.
func TestOtherStates(t *testing.T) {
	d := dice(10)
	for _, b := range samples() {
		own, ok := freq.Of(b)
		for i := 0; ok && i < 8; i++ {
			f := least()
			f[i%4] += []int{1, 1 << 23, 1<<31 - 1<<23 - 1, 1 + d.below(1<<24)}[d.below(4)]
			refused(t, "other states", made(b, own, f))
		}
	}
}

// TestOtherForms: P7.2; a number in more bytes than it needs, states that may not be, bytes of none.
func TestOtherForms(t *testing.T) {
	whole := rans.Put([]byte("ab"))
	if _, e := rans.Take(whole, 2); e != api.OK {
		t.Fatalf("error %d", int(e))
	}
	refused(t, "nothing", nil)
	refused(t, "how many, in two bytes", append([]byte{0x80}, whole...))
	refused(t, "none, in two bytes", []byte{0x80, 0})
	refused(t, "none, and more", []byte{0, 0})
	refused(t, "none, and a table", append([]byte{0}, whole[1:]...))
	refused(t, "one fewer", append([]byte{1}, whole[1:]...))
	refused(t, "one more", append([]byte{3}, whole[1:]...))
	refused(t, "no table", append([]byte{2, 0}, states(least())...))
	for at := 8; at < len(whole); at += 4 {
		for _, top := range []byte{0x80, 0xff} {
			spoilt := bytes.Clone(whole)
			spoilt[at+3] = top
			refused(t, "a state too great", spoilt)
		}
		spoilt := bytes.Clone(whole)
		copy(spoilt[at:], "\xff\xff\x7f\x00")
		refused(t, "a state too small", spoilt)
	}
}

// TestSpoilt: P7.2; whatever Take takes is just what Put makes of it: of bytes with any bit changed, or any byte.
func TestSpoilt(t *testing.T) {
	d := dice(11)
	for _, b := range samples() {
		in := put(b)
		far := 600
		if len(b) > 500 {
			far = 40
		}
		for i := range in[:min(far, len(in))] {
			for n := range 9 {
				spoilt := bytes.Clone(in)
				spoilt[i] ^= byte(1 << n)
				if n == 8 {
					spoilt[i] ^= byte(1 + d.below(255))
				}
				isPuts(t, spoilt)
			}
		}
	}
}

// isPuts: if Take takes it, Put makes just that.
func isPuts(t *testing.T, in []byte) {
	t.Helper()
	got, e := rans.Take(in, 100000)
	if e == api.OK && !bytes.Equal(put(got), in) {
		t.Errorf("%x is taken as %x, which is put as %x", in, got, put(got))
	}
	if e != api.OK && len(got) != 0 {
		t.Errorf("%x: error %d, and %x", in, int(e), got)
	}
}

// TestAnyBytes: P1 and P7.2, of bytes that are of no one, and of such behind a true beginning.
func TestAnyBytes(t *testing.T) {
	d := dice(12)
	for a := range 256 {
		isPuts(t, []byte{byte(a)})
		for b := range 256 {
			isPuts(t, []byte{byte(a), byte(b)})
		}
	}
	for range 20000 {
		in := d.bytes(d.below(60), 256)
		isPuts(t, in)
		w := &itf.Writer{}
		own, _ := freq.Of(d.bytes(1+d.below(9), 1+d.below(9)))
		w.Int(uint32(d.below(12)))
		own.Put(w)
		rans.Four{rans.State(d.below(1 << 31)), 1 << 23, 1 << 23, 1 << 23}.Put(w)
		w.Put(in[:len(in)/20])
		isPuts(t, w.Bytes())
	}
}
