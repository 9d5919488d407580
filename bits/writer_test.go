package bits_test

import (
	"math"
	"testing"

	"scriptorium/bits"
)

// holds: what a writer must have, as noughts and ones.
func holds(t *testing.T, what string, w *bits.Writer, want string) {
	t.Helper()
	if got := w.Bytes(); string(got) != string(packed(want)) || w.Len() != len(want) {
		t.Errorf("%s: %s, %d bits; want %s", what, unpacked(got), w.Len(), want)
	}
}

// TestPutByItsBorders: P3.1.
func TestPutByItsBorders(t *testing.T) {
	for _, c := range []struct {
		n    uint32
		size int
		want string
		len  int
	}{
		{5, 3, "\xa0", 3},
		{0xfd, 3, "\xa0", 3},
		{5, 2, "\x40", 2},
		{5, 4, "\x50", 4},
		{5, 0, "", 0},
		{math.MaxUint32, 0, "", 0},
		{0, 1, "\x00", 1},
		{1, 1, "\x80", 1},
		{0x7f, 7, "\xfe", 7},
		{0, 8, "\x00", 8},
		{0x81, 8, "\x81", 8},
		{0x181, 8, "\x81", 8},
		{0x181, 9, "\xc0\x80", 9},
		{0x12345678, 31, "\x24\x68\xac\xf0", 31},
		{0x12345678, 32, "\x12\x34\x56\x78", 32},
		{math.MaxUint32, 31, "\xff\xff\xff\xfe", 31},
		{math.MaxUint32, 32, "\xff\xff\xff\xff", 32},
		{0, 32, "\x00\x00\x00\x00", 32},
		{0x12345678, 33, "\x12\x34\x56\x78", 32},
		{0x12345678, 64, "\x12\x34\x56\x78", 32},
		{0x12345678, math.MaxInt, "\x12\x34\x56\x78", 32},
		{0x12345678, 1<<32 + 3, "\x12\x34\x56\x78", 32},
		{math.MaxUint32, -1, "", 0},
		{math.MaxUint32, 3 - 1<<32, "", 0},
		{math.MaxUint32, math.MinInt, "", 0},
	} {
		w := &bits.Writer{}
		w.Put(c.n, c.size)
		if got := string(w.Bytes()); got != c.want || w.Len() != c.len {
			t.Errorf("Put(%#x, %d) is %x, %d bits; want %x, %d", c.n, c.size, got, w.Len(), c.want, c.len)
		}
	}
}

// TestPutsBehindOneAnother: P3.1; the bits of a byte are filled up from the highest on.
func TestPutsBehindOneAnother(t *testing.T) {
	w := &bits.Writer{}
	holds(t, "nothing put", w, "")
	row := ""
	for _, c := range []struct {
		n    uint32
		size int
		more string
	}{
		{5, 3, "101"}, {1, 6, "000001"}, {math.MaxUint32, 0, ""}, {3, 2, "11"}, {0, 4, "0000"}, {1, 1, "1"},
		{0xffffff0f, 5, "01111"}, {0x80000001, 32, "10000000000000000000000000000001"}, {2, 3, "010"},
	} {
		w.Put(c.n, c.size)
		row += c.more
		holds(t, "put", w, row)
	}
}

// TestPutBehindEachBeginning: P3.1, of all numbers, sizes and places in a byte.
func TestPutBehindEachBeginning(t *testing.T) {
	for ahead := range 17 {
		for _, fill := range []uint32{0, math.MaxUint32, 0x5a5a5a5a} {
			for _, n := range numbers() {
				for _, size := range sizes {
					w := &bits.Writer{}
					w.Put(fill, ahead)
					w.Put(n, size.asked)
					w.Put(5, 3)
					holds(t, "behind a beginning", w, text(fill, ahead)+text(n, size.meant)+"101")
				}
			}
		}
	}
}

// TestBytesMayBeAskedAtAnyTime: P3.1; the noughts behind aren't put.
func TestBytesMayBeAskedAtAnyTime(t *testing.T) {
	w := &bits.Writer{}
	row := ""
	for i := range 100 {
		bit := uint32(i*i/3) & 1
		w.Put(bit, 1)
		row += text(bit, 1)
		holds(t, "bit by bit", w, row)
		holds(t, "asked again", w, row)
	}
}
