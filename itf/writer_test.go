package itf_test

import (
	"math"
	"testing"

	"scriptorium/itf"
)

// put: what a new writer has after one call.
func put(call func(w *itf.Writer)) string {
	w := &itf.Writer{}
	call(w)
	return string(w.Bytes())
}

// TestIntByItsBorders: P2.1.
func TestIntByItsBorders(t *testing.T) {
	for _, c := range []struct {
		n    uint32
		want string
	}{
		{0, "\x00"},
		{1, "\x01"},
		{300, "\x81\x2c"},
		{1<<7 - 1, "\x7f"},
		{1 << 7, "\x80\x80"},
		{1<<14 - 1, "\xbf\xff"},
		{1 << 14, "\xc0\x40\x00"},
		{0x123456, "\xd2\x34\x56"},
		{1<<21 - 1, "\xdf\xff\xff"},
		{1 << 21, "\xe0\x20\x00\x00"},
		{0x1234567, "\xe1\x23\x45\x67"},
		{1<<28 - 1, "\xef\xff\xff\xff"},
		{1 << 28, "\xf1\x00\x00\x00\x00"},
		{0x12345678, "\xf1\x23\x45\x67\x08"},
		{0xabcdef97, "\xfa\xbc\xde\xf9\x07"},
		{math.MaxUint32, "\xff\xff\xff\xff\x0f"},
	} {
		if got := put(func(w *itf.Writer) { w.Int(c.n) }); got != c.want {
			t.Errorf("Int(%d) is %x, want %x", c.n, got, c.want)
		}
	}
}

// TestLongByItsBorders: P2.1.
func TestLongByItsBorders(t *testing.T) {
	for _, c := range []struct {
		n    uint64
		want string
	}{
		{0, "\x00"},
		{1<<7 - 1, "\x7f"},
		{1 << 7, "\x80\x80"},
		{300, "\x81\x2c"},
		{1<<14 - 1, "\xbf\xff"},
		{1 << 14, "\xc0\x40\x00"},
		{1<<21 - 1, "\xdf\xff\xff"},
		{1 << 21, "\xe0\x20\x00\x00"},
		{1<<28 - 1, "\xef\xff\xff\xff"},
		{1 << 28, "\xf0\x10\x00\x00\x00"},
		{0x712345678, "\xf7\x12\x34\x56\x78"},
		{1<<35 - 1, "\xf7\xff\xff\xff\xff"},
		{1 << 35, "\xf8\x08\x00\x00\x00\x00"},
		{1 << 40, "\xf9\x00\x00\x00\x00\x00"},
		{1<<42 - 1, "\xfb\xff\xff\xff\xff\xff"},
		{1 << 42, "\xfc\x04\x00\x00\x00\x00\x00"},
		{1<<49 - 1, "\xfd\xff\xff\xff\xff\xff\xff"},
		{1 << 49, "\xfe\x02\x00\x00\x00\x00\x00\x00"},
		{1<<56 - 1, "\xfe\xff\xff\xff\xff\xff\xff\xff"},
		{1 << 56, "\xff\x01\x00\x00\x00\x00\x00\x00\x00"},
		{1<<63 - 1, "\xff\x7f\xff\xff\xff\xff\xff\xff\xff"},
		{1 << 63, "\xff\x80\x00\x00\x00\x00\x00\x00\x00"},
		{0x123456789abcdef0, "\xff\x12\x34\x56\x78\x9a\xbc\xde\xf0"},
		{math.MaxUint64, "\xff\xff\xff\xff\xff\xff\xff\xff\xff"},
	} {
		if got := put(func(w *itf.Writer) { w.Long(c.n) }); got != c.want {
			t.Errorf("Long(%d) is %x, want %x", c.n, got, c.want)
		}
	}
}

// TestSignedIsTheLowest32Bits: P2.1.
func TestSignedIsTheLowest32Bits(t *testing.T) {
	for _, c := range []struct {
		n    int
		want uint32
	}{
		{0, 0},
		{1, 1},
		{300, 300},
		{-1, math.MaxUint32},
		{-2, math.MaxUint32 - 1},
		{math.MaxInt32, 1<<31 - 1},
		{math.MinInt32, 1 << 31},
		{1 << 31, 1 << 31},
		{math.MaxUint32, math.MaxUint32},
		{1 << 32, 0},
		{1<<32 + 5, 5},
		{-1 << 32, 0},
		{-1<<32 - 1, math.MaxUint32},
		{math.MaxInt, math.MaxUint32},
		{math.MinInt, 0},
	} {
		got := put(func(w *itf.Writer) { w.Signed(c.n) })
		if want := string(speltInt(uint64(c.want), needInt(uint64(c.want)))); got != want {
			t.Errorf("Signed(%d) is %x, want %x", c.n, got, want)
		}
	}
}

// TestNumbersAsTheChapterSpellsThem: P2.1, of many numbers.
func TestNumbersAsTheChapterSpellsThem(t *testing.T) {
	for _, n := range samples(math.MaxUint64) {
		if got, want := put(func(w *itf.Writer) { w.Long(n) }), string(speltLong(n, needLong(n))); got != want {
			t.Errorf("Long(%d) is %x, want %x", n, got, want)
		}
	}
	for _, n := range samples(math.MaxUint32) {
		if got, want := put(func(w *itf.Writer) { w.Int(uint32(n)) }), string(speltInt(n, needInt(n))); got != want {
			t.Errorf("Int(%d) is %x, want %x", n, got, want)
		}
	}
}

// TestWriterIsWires: its calls are promoted, and put beside the numbers.
func TestWriterIsWires(t *testing.T) {
	w := &itf.Writer{}
	w.Byte(7)
	w.Int(300)
	w.Put([]byte("ab"))
	w.Signed(-1)
	w.Word(513)
	w.Long(1 << 7)
	want := "\x07\x81\x2cab\xff\xff\xff\xff\x0f\x01\x02\x00\x00\x80\x80"
	if string(w.Bytes()) != want || w.Len() != len(want) {
		t.Errorf("%x (%d), want %x", w.Bytes(), w.Len(), want)
	}
	if string(w.Writer.Bytes()) != want {
		t.Error("what it embeds has other bytes")
	}
}
