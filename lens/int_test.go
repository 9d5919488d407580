package lens_test

import (
	"math"
	"testing"

	"scriptorium/api"
	"scriptorium/desc"
	"scriptorium/huff"
	"scriptorium/lens"
)

// of: a lens of a row of bits, and of blocks.
func of(core string, blocks map[int]string) *lens.Lens {
	x, _ := both(core, blocks)
	return x
}

// isInt: the first number by a way is this one, or an error; and at the end is this.
func isInt(t *testing.T, d desc.Ints, x *lens.Lens, want int, e, end api.Errno) {
	t.Helper()
	if n := x.Int(d); n != want || x.Err() != e || x.End() != end {
		t.Errorf("by %v: %d, not %d; error %d, not %d; at the end %d, not %d", d, n, want, int(x.Err()), int(e), int(x.End()), int(end))
	}
}

// TestOutside: P11.1; a signed number of chapter 2, from the way's block; chapter 2's errors; ErrRange of -2^31.
func TestOutside(t *testing.T) {
	for _, c := range []struct {
		b      string
		want   int
		e, end api.Errno
	}{
		{"\x00", 0, api.OK, api.OK},
		{"\x7f", 127, api.OK, api.OK},
		{"\x80\x80", 128, api.OK, api.OK},
		{"\x81\x2c", 300, api.OK, api.OK},
		{"\x81\x2c\x00", 300, api.OK, api.ErrRest},
		{"\xff\xff\xff\xff\x0f", -1, api.OK, api.OK},
		{"\xff\xff\xff\xed\x04", -300, api.OK, api.OK},
		{"\xf7\xff\xff\xff\x0f", 2147483647, api.OK, api.OK},
		{"\xf8\x00\x00\x00\x01", -2147483647, api.OK, api.OK},
		{"\xf8\x00\x00\x00\x00", 0, api.ErrRange, api.ErrRange},
		{"", 0, api.ErrShort, api.ErrShort},
		{"\x80", 0, api.ErrShort, api.ErrShort},
		{"\xf1\x00\x00\x00", 0, api.ErrShort, api.ErrShort},
		{"\x80\x7f", 0, api.ErrForm, api.ErrForm},
		{"\xe0\x0f\xff\xff", 0, api.ErrForm, api.ErrForm},
		{"\xf1\x00\x00\x00\x10", 0, api.ErrForm, api.ErrForm},
		{"\xf8\x00\x00\x00\x10", 0, api.ErrForm, api.ErrForm},
	} {
		for _, block := range []int{1, 2, 256, 59999, 60000} {
			isInt(t, outside(block), of("", map[int]string{block: c.b}), c.want, c.e, c.end)
		}
	}
}

// TestNoBlock: P11.1; ErrNone, where there is no such block; one without bytes is there, but short.
func TestNoBlock(t *testing.T) {
	isInt(t, outside(5), of("", nil), 0, api.ErrNone, api.ErrNone)
	isInt(t, outside(5), of("\xff", map[int]string{4: "\x01", 6: "\x01", 0: "\x01", -5: "\x01", 65541: "\x01"}), 0, api.ErrNone, api.ErrNone)
	isInt(t, outside(5), of("", map[int]string{5: ""}), 0, api.ErrShort, api.ErrShort)
	x := lens.New(nil, map[int][]byte{5: nil})
	isInt(t, outside(5), x, 0, api.ErrShort, api.ErrShort)
	isInt(t, outside(5), lens.New(nil, nil), 0, api.ErrNone, api.ErrNone)
}

// TestFixed: P11.1; Least, and so many bits, the highest first; ErrShort of fewer; ErrRange above MaxInt.
func TestFixed(t *testing.T) {
	for _, c := range []struct {
		least, bits int
		core        string
		want        int
		e, end      api.Errno
	}{
		{10, 2, "\x00", 10, api.OK, api.OK},
		{10, 2, "\x40", 11, api.OK, api.OK},
		{10, 2, "\xc0", 13, api.OK, api.OK},
		{10, 2, "\xe0", 13, api.OK, api.ErrRest},
		{10, 2, "\xc0\x00", 13, api.OK, api.ErrRest},
		{10, 2, "", 0, api.ErrShort, api.ErrShort},
		{-5, 4, "\x50", 0, api.OK, api.OK},
		{-5, 4, "\xf0", 10, api.OK, api.OK},
		{7, 0, "", 7, api.OK, api.OK},
		{7, 0, "\x00", 7, api.OK, api.ErrRest},
		{0, 8, "\xff", 255, api.OK, api.OK},
		{0, 9, "\xff", 0, api.ErrShort, api.ErrShort},
		{0, 9, "\xff\x80", 511, api.OK, api.OK},
		{0, 31, "\xff\xff\xff\xfe", 2147483647, api.OK, api.OK},
		{0, 31, "\xff\xff\xff", 0, api.ErrShort, api.ErrShort},
		{0, 31, "\x00\x00\x00\x0a", 5, api.OK, api.OK},
		{1, 31, "\xff\xff\xff\xfc", 2147483647, api.OK, api.OK},
		{1, 31, "\xff\xff\xff\xfe", 0, api.ErrRange, api.ErrRange},
		{-2147483647, 31, "\x00\x00\x00\x00", -2147483647, api.OK, api.OK},
		{-2147483647, 31, "\xff\xff\xff\xfe", 0, api.OK, api.OK},
		{-2147483647, 0, "", -2147483647, api.OK, api.OK},
		{2147483647, 0, "", 2147483647, api.OK, api.OK},
		{2147483647, 31, "\x00\x00\x00\x00", 2147483647, api.OK, api.OK},
		{2147483647, 31, "\x00\x00\x00\x02", 0, api.ErrRange, api.ErrRange},
		{2147483647, 31, "\xff\xff\xff\xfe", 0, api.ErrRange, api.ErrRange},
		{2147483647, 1, "\x80", 0, api.ErrRange, api.ErrRange},
	} {
		isInt(t, fixed(c.least, c.bits), of(c.core, nil), c.want, c.e, c.end)
	}
}

// TestFixedOfEachSize: P11.1; of each number of bits, just so many are taken, and a byte fewer is too short.
func TestFixedOfEachSize(t *testing.T) {
	text := "1011001110001111000010101101110010110011"
	for size := range 32 {
		core := string(packed(text[:size+1]))
		x, p := both(core, nil)
		takesInt(t, x, p, fixed(-3, size))
		takesInt(t, x, p, fixed(0, 1))
		if p.err != api.OK {
			t.Errorf("%d bits: error %d", size, int(p.err))
		}
		x, p = both(string(packed(text)[:max(size-1, 0)/8]), nil)
		takesInt(t, x, p, fixed(-3, size))
		if (p.err == api.OK) != (size == 0) {
			t.Errorf("%d bits: error %d", size, int(p.err))
		}
	}
}

// TestWords: P11.1; whose word comes next; ErrShort, where none does, be it that bits are missing or that none is so.
func TestWords(t *testing.T) {
	l := entries(-4, 1, 2, 2, 9, 2)
	some := entries(5, 2, 6, 3)
	for _, c := range []struct {
		l      []huff.Entry
		core   string
		want   int
		e, end api.Errno
	}{
		{l, "\x00", -4, api.OK, api.OK},
		{l, "\x80", 2, api.OK, api.OK},
		{l, "\xc0", 9, api.OK, api.OK},
		{l, "\xc1", 9, api.OK, api.ErrRest},
		{l, "", 0, api.ErrShort, api.ErrShort},
		{entries(77, 0), "", 77, api.OK, api.OK},
		{entries(77, 0), "\x00", 77, api.OK, api.ErrRest},
		{entries(-2147483647, 1, 2147483647, 1), "\x00", -2147483647, api.OK, api.OK},
		{entries(-2147483647, 1, 2147483647, 1), "\x80", 2147483647, api.OK, api.OK},
		{some, "\x00", 5, api.OK, api.OK},
		{some, "\x40", 6, api.OK, api.OK},
		{some, "\x60", 0, api.ErrShort, api.ErrShort},
		{some, "\x80", 0, api.ErrShort, api.ErrShort},
		{some, "\x80\x00\x00\x00\x00\x00", 0, api.ErrShort, api.ErrShort},
		{entries(3, 20), "\x00\x00\x00", 3, api.OK, api.OK},
		{entries(3, 20), "\x00\x00\x0f", 3, api.OK, api.ErrRest},
		{entries(3, 20), "\x00\x00\x10", 0, api.ErrShort, api.ErrShort},
		{entries(3, 20), "\x00\x00", 0, api.ErrShort, api.ErrShort},
	} {
		isInt(t, words(c.l), of(c.core, nil), c.want, c.e, c.end)
	}
}

// TestWaysComeFirst: P11.1 and R2; what is wrong with a way, ahead of what can't be taken, and ErrRange.
func TestWaysComeFirst(t *testing.T) {
	for _, c := range refused() {
		for _, x := range []func() *lens.Lens{
			func() *lens.Lens { return of("", nil) },
			func() *lens.Lens { return of("\xff\xff\xff\xff\xff", map[int]string{0: "\x01", 1: "\x01"}) },
			func() *lens.Lens { return of("\x80", map[int]string{1: "\xf8\x00\x00\x00\x00", 60001: "\x01"}) },
		} {
			isInt(t, c.d, x(), 0, c.want, c.want)
			y := x()
			if y.Within(c.d, 5, 4) != 0 || y.Err() != c.want {
				t.Errorf("by %v: error %d, not %d", c.d, int(y.Err()), int(c.want))
			}
		}
	}
}

// TestWhatDoesNotBelong: P11.1; what doesn't belong to a way's kind may be anything.
func TestWhatDoesNotBelong(t *testing.T) {
	odd := desc.Ints{Kind: desc.Outside, Block: 3, Entries: entries(1, 99), Least: math.MinInt, Bits: -1}
	isInt(t, odd, of("", map[int]string{3: "\x05"}), 5, api.OK, api.OK)
	odd = desc.Ints{Kind: desc.Words, Block: -1, Entries: entries(1, 1, 2, 1), Least: math.MaxInt, Bits: 99}
	isInt(t, odd, of("\x80", nil), 2, api.OK, api.OK)
	odd = desc.Ints{Kind: desc.Fixed, Block: math.MinInt, Entries: entries(2, 0, 1, 0), Least: 3, Bits: 1}
	isInt(t, odd, of("\x80", nil), 4, api.OK, api.OK)
}

// TestWithin: P11.1; ErrRange of a number that isn't from the one to the other; both may be any.
func TestWithin(t *testing.T) {
	for _, c := range []struct {
		b        string
		from, to int
		want     int
		e        api.Errno
	}{
		{"\x05", 5, 5, 5, api.OK},
		{"\x05", 0, 5, 5, api.OK},
		{"\x05", 5, 9, 5, api.OK},
		{"\x05", 6, 9, 0, api.ErrRange},
		{"\x05", 0, 4, 0, api.ErrRange},
		{"\x05", 6, 4, 0, api.ErrRange},
		{"\x05", 9, 0, 0, api.ErrRange},
		{"\x05", math.MinInt, math.MaxInt, 5, api.OK},
		{"\x05", math.MaxInt, math.MinInt, 0, api.ErrRange},
		{"\x00", 0, 0, 0, api.OK},
		{"\x00", 1, 1, 0, api.ErrRange},
		{"\x00", -1, -1, 0, api.ErrRange},
		{"\xff\xff\xff\xff\x0f", -1, -1, -1, api.OK},
		{"\xff\xff\xff\xff\x0f", 0, 9, 0, api.ErrRange},
		{"\xff\xff\xff\xff\x0f", -9, -2, 0, api.ErrRange},
		{"\xff\xff\xff\xff\x0f", 1<<32 - 1, 1<<32 - 1, 0, api.ErrRange},
		{"\xf7\xff\xff\xff\x0f", 2147483647, math.MaxInt, 2147483647, api.OK},
		{"\xf7\xff\xff\xff\x0f", 2147483648, math.MaxInt, 0, api.ErrRange},
		{"\xf8\x00\x00\x00\x01", math.MinInt, -2147483647, -2147483647, api.OK},
		// Wider than numbers may be at all: these don't come in by it.
		{"\xf8\x00\x00\x00\x00", math.MinInt, math.MaxInt, 0, api.ErrRange},
		{"\xf8\x00\x00\x00\x00", -2147483648, -2147483648, 0, api.ErrRange},
		{"", 5, 4, 0, api.ErrShort},
		{"\x80\x05", 5, 4, 0, api.ErrForm},
	} {
		x := of("", map[int]string{7: c.b})
		if n := x.Within(outside(7), c.from, c.to); n != c.want || x.Err() != c.e {
			t.Errorf("%x from %d to %d: %d, not %d; error %d, not %d", c.b, c.from, c.to, n, c.want, int(x.Err()), int(c.e))
		}
		x = of("", nil)
		if n := x.Within(outside(7), c.from, c.to); n != 0 || x.Err() != api.ErrNone {
			t.Errorf("no block, from %d to %d: %d, error %d", c.from, c.to, n, int(x.Err()))
		}
	}
}

// TestWithinOfBits: P11.1; likewise of words, and of fixed numbers, above MaxInt, too.
func TestWithinOfBits(t *testing.T) {
	high := fixed(api.MaxInt, 2)
	for _, c := range []struct {
		d        desc.Ints
		core     string
		from, to int
		want     int
		e        api.Errno
	}{
		{fixed(3, 2), "\xc0", 6, 6, 6, api.OK},
		{fixed(3, 2), "\xc0", 3, 5, 0, api.ErrRange},
		{fixed(3, 2), "\xc0", 7, 9, 0, api.ErrRange},
		{fixed(3, 2), "", 7, 9, 0, api.ErrShort},
		{high, "\x00", api.MaxInt, math.MaxInt, api.MaxInt, api.OK},
		{high, "\x40", 0, math.MaxInt, 0, api.ErrRange},
		{high, "\x40", api.MaxInt + 1, api.MaxInt + 1, 0, api.ErrRange},
		{words(entries(-4, 1, 2, 1)), "\x80", 2, 2, 2, api.OK},
		{words(entries(-4, 1, 2, 1)), "\x00", -3, 2, 0, api.ErrRange},
		{words(entries(-4, 1, 2, 1)), "\x00", -9, -5, 0, api.ErrRange},
		{words(entries(-4, 1, 2, 1)), "", -9, -5, 0, api.ErrShort},
	} {
		x := of(c.core, nil)
		if n := x.Within(c.d, c.from, c.to); n != c.want || x.Err() != c.e {
			t.Errorf("%x by %v from %d to %d: %d, not %d; error %d, not %d", c.core, c.d, c.from, c.to, n, c.want, int(x.Err()), int(c.e))
		}
	}
}

// TestOneAfterTheOther: P11.1; each number is taken behind the one ahead, in the row and in each block by itself.
func TestOneAfterTheOther(t *testing.T) {
	x, p := both(string(packed("0101"+"11"+"0"+"10"+"10000000"+"0")), map[int]string{1: "\x01\x81\x2c\x03", 9: "\x7f\x00"})
	l := words(entries(5, 1, 6, 2, 7, 2))
	for i, c := range []struct {
		d    desc.Ints
		want int
	}{
		{fixed(0, 4), 5}, {l, 7}, {outside(1), 1}, {l, 5}, {outside(9), 127}, {outside(1), 300}, {l, 6}, {fixed(-128, 8), 0}, {words(entries(8, 0)), 8}, {outside(1), 3}, {outside(9), 0}, {l, 5}, {fixed(4, 0), 4},
	} {
		if x.End() != api.ErrRest && i < 11 {
			t.Errorf("ahead of number %d nothing is left", i)
		}
		if n := p.int(c.d); n != c.want {
			t.Errorf("number %d is %d, not %d", i, n, c.want)
		}
		if n := x.Int(c.d); n != c.want {
			t.Errorf("number %d is %d, not %d", i, n, c.want)
		}
		stands(t, x, p)
	}
	if x.End() != api.OK {
		t.Errorf("at the end %d", int(x.End()))
	}
}
