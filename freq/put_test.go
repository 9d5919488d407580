package freq_test

import (
	"bytes"
	"math"
	"testing"

	"scriptorium/api"
	"scriptorium/freq"
	"scriptorium/itf"
)

// numbers: as chapter 2 puts them, however great.
func numbers(all ...uint32) []byte {
	w := &itf.Writer{}
	for _, n := range all {
		w.Int(n)
	}
	return w.Bytes()
}

// TestPut: P6.2, byte by byte.
func TestPut(t *testing.T) {
	for _, c := range []struct {
		t    freq.Table
		want string
	}{
		{table(map[byte]int{0: 4096}), "\x01\x00\x90\x00"},
		{table(map[byte]int{'a': 4096}), "\x01\x61\x90\x00"},
		{table(map[byte]int{255: 4096}), "\x01\x80\xff\x90\x00"},
		{table(map[byte]int{'a': 2731, 'b': 1365}), "\x02\x61\x8a\xab\x00\x85\x55"},
		{table(map[byte]int{0: 1, 2: 127, 255: 3968}), "\x03\x00\x01\x01\x7f\x80\xfc\x8f\x80"},
	} {
		w := &itf.Writer{}
		if e := c.t.Put(w); e != api.OK || string(w.Bytes()) != c.want {
			t.Errorf("%x, not %x (%d)", w.Bytes(), c.want, int(e))
		}
	}
	for _, x := range tables() {
		w := &itf.Writer{}
		w.Byte(77)
		if e := x.Put(w); e != api.OK || !bytes.Equal(w.Bytes(), append([]byte{77}, told(x)...)) {
			t.Errorf("%v: %x, not %x (%d)", x, w.Bytes(), told(x), int(e))
		}
	}
}

// TestPutErrors: P6.2; ErrNil ahead of Check's; R4: nothing is put.
func TestPutErrors(t *testing.T) {
	if e := (freq.Table{0: 4096}).Put(nil); e != api.ErrNil {
		t.Errorf("no writer: %d", int(e))
	}
	for _, c := range refused() {
		if e := c.t.Put(nil); e != api.ErrNil {
			t.Errorf("no writer, wrong table: %d", int(e))
		}
		w := &itf.Writer{}
		w.Byte(77)
		if e := c.t.Put(w); e != c.want || string(w.Bytes()) != "\x4d" {
			t.Errorf("%v: %d, not %d; %x", c.t, int(e), int(c.want), w.Bytes())
		}
	}
}

// TestTakeBack: P6.2; what is behind stays; each true beginning is too short.
func TestTakeBack(t *testing.T) {
	for _, x := range tables() {
		in := told(x)
		r := itf.Read(append(bytes.Clone(in), 0, 1, 0xff))
		if got := freq.Take(r); got != x || r.Err() != api.OK || r.At() != len(in) || r.Left() != 3 {
			t.Errorf("%v came back as %v, error %d, at %d", x, got, int(r.Err()), r.At())
		}
		for size := range in {
			r := itf.Read(in[:size])
			if got := freq.Take(r); got != (freq.Table{}) || r.Err() != api.ErrShort {
				t.Errorf("%d bytes of %x: %v, error %d", size, in, got, int(r.Err()))
			}
		}
	}
}

// TestTablesInARow: P6.2; one behind the other, and then an error, behind which nothing is taken.
func TestTablesInARow(t *testing.T) {
	w := &itf.Writer{}
	for _, x := range tables() {
		x.Put(w)
	}
	w.Put(spelt(1, 0, 4095))
	tables()[0].Put(w)
	r := itf.Read(w.Bytes())
	for _, x := range tables() {
		if got := freq.Take(r); got != x || r.Err() != api.OK {
			t.Errorf("%v came back as %v, error %d", x, got, int(r.Err()))
		}
	}
	for range 3 {
		if got := freq.Take(r); got != (freq.Table{}) || r.Err() != api.ErrSum || r.Left() != 0 {
			t.Errorf("%v, error %d", got, int(r.Err()))
		}
	}
}

// TestTakeErrors: P6.2; each one's border, and which comes first.
func TestTakeErrors(t *testing.T) {
	all := func(first uint32, last ...uint32) []byte {
		n := []uint32{first}
		for range 255 {
			n = append(n, 0, 16)
		}
		return numbers(append(n, last...)...)
	}
	for _, c := range []struct {
		what string
		in   []byte
		want api.Errno
	}{
		{"nothing", nil, api.ErrShort},
		{"256", all(256, 0, 16), api.OK},
		{"257", all(257, 0, 15, 0, 1), api.ErrMany},
		{"257, and nothing more", numbers(257), api.ErrMany},
		{"as many as can be", numbers(math.MaxUint32), api.ErrMany},
		{"none", numbers(0), api.ErrSum},
		{"byte 255", numbers(1, 255, 4096), api.OK},
		{"byte 256", numbers(1, 256, 4096), api.ErrRange},
		{"byte 255, then 256", numbers(2, 255, 4095, 0, 1), api.ErrRange},
		{"byte 0, then 255", numbers(2, 0, 4095, 254, 1), api.OK},
		{"byte 0, then 256", numbers(2, 0, 4095, 255, 1), api.ErrRange},
		{"byte 255 of 256", all(256, 1, 16), api.ErrRange},
		{"byte 2^31", numbers(1, 1<<31, 4096), api.ErrRange},
		{"the greatest byte", numbers(1, math.MaxUint32, 4096), api.ErrRange},
		{"a byte above 2^32", numbers(2, 9, 2048, math.MaxUint32, 2048), api.ErrRange},
		{"a byte of 2^32 less 10", numbers(2, 9, 2048, math.MaxUint32-9, 2048), api.ErrRange},
		{"no parts", numbers(1, 0, 0), api.ErrRange},
		{"no parts beside all", numbers(2, 0, 4096, 0, 0), api.ErrRange},
		{"no parts ahead of all", numbers(2, 0, 0, 0, 4096), api.ErrRange},
		{"4097 parts", numbers(1, 0, 4097), api.ErrRange},
		{"4097 parts, and more", numbers(2, 0, 4097, 0, 1), api.ErrRange},
		{"the most parts", numbers(1, 0, math.MaxUint32), api.ErrRange},
		{"parts of 2^32 in all and 4096", numbers(3, 0, math.MaxUint32, 0, 1, 0, 4096), api.ErrRange},
		{"4095 parts", numbers(1, 0, 4095), api.ErrSum},
		{"4097 parts in all", numbers(2, 0, 4096, 0, 1), api.ErrSum},
		{"parts of 256, too many", all(256, 0, 17), api.ErrSum},
		{"4097 parts, then too short", numbers(2, 0, 4097, 0), api.ErrShort},
		{"4097 in all, then too short", numbers(3, 0, 4096, 0, 1), api.ErrShort},
		{"no parts, then too short", numbers(2, 0, 0), api.ErrRange},
		{"how many, longer than needed", append([]byte{0x80}, numbers(1, 0, 4096)...), api.ErrForm},
		{"a byte, longer than needed", append([]byte{1, 0x80}, numbers(0, 4096)...), api.ErrForm},
		{"parts, longer than needed", []byte{1, 0, 0xc0, 0x10, 0x00}, api.ErrForm},
		{"4097 parts, then a byte longer than needed", append(numbers(2, 0, 4097), 0x80, 0), api.ErrForm},
	} {
		r := itf.Read(c.in)
		got := freq.Take(r)
		if r.Err() != c.want || (got == freq.Table{}) != (c.want != api.OK) {
			t.Errorf("%s: error %d, not %d; %v", c.what, int(r.Err()), int(c.want), got)
		}
		if c.want == api.OK && got.Check() != api.OK {
			t.Errorf("%s: %v", c.what, got)
		}
	}
}

// honest: whatever is taken is a table that may be, put by just those bytes; else there is an error, and nothing is answered.
func honest(t *testing.T, in []byte) {
	t.Helper()
	r := itf.Read(in)
	got := freq.Take(r)
	if r.Err() != api.OK {
		if got != (freq.Table{}) {
			t.Fatalf("%x: %v beside error %d", in, got, int(r.Err()))
		}
		return
	}
	w := &itf.Writer{}
	if e := got.Put(w); e != api.OK || !bytes.Equal(w.Bytes(), in[:r.At()]) {
		t.Fatalf("%x: %v is put as %x (%d)", in, got, w.Bytes(), int(e))
	}
}

// TestTakeOfAnyBytes: P1 and P6.2; tables with a byte or two that differ, and bytes of any kind.
func TestTakeOfAnyBytes(t *testing.T) {
	d := dice(64)
	for _, x := range tables() {
		in := told(x)
		for at := range in {
			for _, c := range []byte{0, 1, 15, 0x7f, 0x80, 0x90, 0xc0, 0xe0, 0xf0, 0xff, byte(d.below(256)), in[at] + 1, in[at] - 1} {
				b := bytes.Clone(in)
				b[at] = c
				honest(t, b)
				b[d.below(len(b))]++
				honest(t, b)
			}
		}
	}
	for range 20000 {
		b := make([]byte, d.below(12))
		for i := range b {
			b[i] = byte(d.below(1 + d.below(256)))
		}
		honest(t, b)
	}
}
