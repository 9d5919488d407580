package crc_test

import (
	"bytes"
	"testing"

	"scriptorium/crc"
)

// TestNew: P4.1, the table.
func TestNew(t *testing.T) {
	x := crc.New()
	for i, want := range libraryTable() {
		if x[i] != want {
			t.Errorf("entry %d: %08x, not %08x", i, x[i], want)
		}
	}
	for _, c := range []struct {
		i    int
		want uint32
	}{{0, 0}, {1, 0x77073096}, {2, 0xee0e612c}, {128, 0xedb88320}, {255, 0x2d02ef8d}} {
		if x[c.i] != c.want {
			t.Errorf("entry %d: %08x, not %08x", c.i, x[c.i], c.want)
		}
	}
}

// TestSumKnown: P4.1, sums that are told elsewhere.
func TestSumKnown(t *testing.T) {
	x := crc.New()
	for _, c := range []struct {
		text string
		want uint32
	}{
		{"", 0},
		{"\x00", 0xd202ef8d},
		{"\x00\x00\x00\x00", 0x2144df1c},
		{"\xff", 0xff000000},
		{"\xff\xff\xff\xff", 0xffffffff},
		{"a", 0xe8b7be43},
		{"abc", 0x352441c2},
		{"123456789", 0xcbf43926},
		{"The quick brown fox jumps over the lazy dog", 0x414fa339},
	} {
		if got := x.Sum([]byte(c.text)); got != c.want {
			t.Errorf("%q: %08x, not %08x", c.text, got, c.want)
		}
	}
}

// TestSumBitByBit: P4.1.
func TestSumBitByBit(t *testing.T) {
	x := crc.New()
	for _, b := range samples() {
		if got, want := x.Sum(b), plainSum(b); got != want {
			t.Errorf("%x: %08x, not %08x", b, got, want)
		}
	}
}

// TestSumOfParts: P4.1; however bytes are cut, the sum is that of them all.
func TestSumOfParts(t *testing.T) {
	x := crc.New()
	b := []byte("\x00\xff123456789\x80\x00\x00")
	want := x.Sum(b)
	for i := range len(b) + 1 {
		for j := i; j <= len(b); j++ {
			if got := x.Sum(b[:i], b[i:j], b[j:]); got != want {
				t.Errorf("cut at %d and %d: %08x, not %08x", i, j, got, want)
			}
		}
	}
	var single [][]byte
	for i := range b {
		single = append(single, nil, b[i:i+1], []byte{})
	}
	if got := x.Sum(single...); got != want {
		t.Errorf("byte by byte: %08x, not %08x", got, want)
	}
	if x.Sum(b[3:], b[:3]) == want {
		t.Error("the order of parts doesn't show")
	}
}

// TestSumOfNothing: P4.1 and R5; no bytes have the sum 0, however they are told.
func TestSumOfNothing(t *testing.T) {
	x := crc.New()
	var none [][]byte
	for _, got := range []uint32{x.Sum(), x.Sum(nil), x.Sum([]byte{}), x.Sum(nil, []byte{}, nil), x.Sum(none...)} {
		if got != 0 {
			t.Errorf("the sum of nothing: %08x", got)
		}
	}
}

// TestPut: P4.1; the lowest byte of the sum is first.
func TestPut(t *testing.T) {
	x := crc.New()
	if got := x.Put([]byte("123456789")); string(got) != "123456789\x26\x39\xf4\xcb" {
		t.Errorf("%x", got)
	}
	if got := x.Put([]byte("\xff")); string(got) != "\xff\x00\x00\x00\xff" {
		t.Errorf("%x", got)
	}
	for _, b := range samples() {
		got := x.Put(b)
		if !bytes.Equal(got, withSum(b, plainSum(b))) {
			t.Errorf("%x: %x", b, got)
		}
		if !x.Right(got) {
			t.Errorf("%x isn't right", got)
		}
	}
}

// TestRightEdges: P4.1; fewer than four bytes never are, four are those of no bytes ahead.
func TestRightEdges(t *testing.T) {
	x := crc.New()
	for _, c := range []struct {
		text string
		want bool
	}{
		{"", false},
		{"\x00", false},
		{"\x00\x00", false},
		{"\x00\x00\x00", false},
		{"\x00\x00\x00\x00", true},
		{"\x01\x00\x00\x00", false},
		{"\x00\x00\x00\x01", false},
		{"\xff\xff\xff\xff", false},
		{"\x00\x00\x00\x00\x00", false},
		{"\x00\x8d\xef\x02\xd2", true},
		{"\x00\xd2\x02\xef\x8d", false},
		{"\xff\x00\x00\x00\xff", true},
		{"\x26\x39\xf4\xcb", false},
		{"123456789\x26\x39\xf4\xcb", true},
		{"123456789\xcb\xf4\x39\x26", false},
		{"123456789\x26\x39\xf4", false},
		{"123456789\x26\x39\xf4\xcb\x00", false},
		{"\x26\x39\xf4\xcb123456789", false},
	} {
		if got := x.Right([]byte(c.text)); got != c.want {
			t.Errorf("%q: %v", c.text, got)
		}
	}
	if x.Right(nil) {
		t.Error("nil is right")
	}
}

// TestRightOfSpoilt: P4.1; a sum tells bits that differ within 32 neighbouring ones, in each byte the lowest first.
func TestRightOfSpoilt(t *testing.T) {
	x := crc.New()
	good := x.Put([]byte("reads\x00\xff"))
	bits := 8 * len(good)
	for from := range bits {
		for _, row := range []uint32{1, 3, 5, 0x80000001, 0xffffffff, 0xedb88321, 0xdeadbeef} {
			bad := bytes.Clone(good)
			for i := range min(32, bits-from) {
				bad[(from+i)/8] ^= byte(row>>i&1) << ((from + i) % 8)
			}
			if x.Right(bad) {
				t.Errorf("spoilt at bit %d by %x, it is right", from, row)
			}
		}
	}
	for cut := range good {
		if x.Right(good[:cut]) {
			t.Errorf("%x is right", good[:cut])
		}
	}
}
