package crc_test

import (
	"bytes"
	"testing"

	"scriptorium/crc"
)

// TestNilDoesNothing: R7.
func TestNilDoesNothing(t *testing.T) {
	var x *crc.Table
	for _, b := range [][]byte{nil, {}, {0}, {0, 0, 0, 0}, []byte("123456789\x26\x39\xf4\xcb")} {
		if x.Sum(b) != 0 || x.Sum(b, b) != 0 || x.Sum() != 0 {
			t.Errorf("%x: a nil table's sum", b)
		}
		if x.Right(b) {
			t.Errorf("%x: right by a nil table", b)
		}
		if len(x.Put(b)) != 0 {
			t.Errorf("%x: put by a nil table", b)
		}
	}
}

// TestNoBytes: R5; nil and empty are the same.
func TestNoBytes(t *testing.T) {
	x := crc.New()
	for _, b := range [][]byte{nil, {}, make([]byte, 0, 8)} {
		if x.Sum(b) != 0 || x.Right(b) || string(x.Put(b)) != "\x00\x00\x00\x00" {
			t.Errorf("no bytes: %08x, %v, %x", x.Sum(b), x.Right(b), x.Put(b))
		}
	}
}

// roomy: bytes with spare room behind them, and all of that memory.
func roomy(text string) (b, all []byte) {
	all = []byte(text + "spare room")
	return all[:len(text)], all
}

// spoil changes bytes and the spare room behind them.
func spoil(b []byte) {
	b = b[:cap(b)]
	for i := range b {
		b[i] ^= 0xff
	}
}

// TestHandedInStays: R6; what is handed in isn't changed, nor the room behind it, nor the table.
func TestHandedInStays(t *testing.T) {
	x := crc.New()
	was := *x
	for _, text := range []string{"", "123456789", "123456789\x26\x39\xf4\xcb"} {
		b, all := roomy(text)
		parts := make([][]byte, 2, 4)
		parts[0], parts[1] = b, all
		spare := parts[:4]
		x.Sum(parts...)
		x.Right(b)
		x.Put(b)
		if string(all) != text+"spare room" || spare[2] != nil || spare[3] != nil {
			t.Errorf("%q was changed: %q", text, all)
		}
	}
	if *x != was {
		t.Error("the table was changed")
	}
}

// TestPutAnswersNewMemory: R6.
func TestPutAnswersNewMemory(t *testing.T) {
	x := crc.New()
	for _, text := range []string{"", "1234", "123456789"} {
		b, all := roomy(text)
		want := withSum([]byte(text), plainSum([]byte(text)))
		first, second := x.Put(b), x.Put(b)
		spoil(first)
		if string(all) != text+"spare room" || !bytes.Equal(second, want) {
			t.Errorf("%q: an answer shares memory: %x, %x", text, all, second)
		}
		spoil(b)
		if !bytes.Equal(second, want) {
			t.Errorf("%q: an answer hangs on what was handed in: %x", text, second)
		}
	}
}

// TestTablesStandAlone: R6 and R8; each New is new, and a call hangs on its own table alone.
func TestTablesStandAlone(t *testing.T) {
	x, y := crc.New(), crc.New()
	for i := range x {
		x[i] = 0
	}
	text := []byte("123456789")
	for range 2 {
		if y.Sum(text) != 0xcbf43926 || !y.Right(y.Put(text)) {
			t.Error("a table hangs on another")
		}
	}
	if *y != *crc.New() {
		t.Error("two new tables differ")
	}
	if x.Sum([]byte{1}) != 0xff000000 || x.Sum(text) != 0xffffffff {
		t.Errorf("a table of noughts: %08x, %08x", x.Sum([]byte{1}), x.Sum(text))
	}
	if string(x.Put([]byte{1})) != "\x01\x00\x00\x00\xff" || !x.Right(x.Put(text)) || x.Right(y.Put(text)) {
		t.Error("a table of noughts: Put and Right")
	}
}

// TestSumKeepsNothing: R8; the same call answers the same, whatever was asked ahead of it.
func TestSumKeepsNothing(t *testing.T) {
	x := crc.New()
	for _, b := range samples() {
		x.Sum(b)
		x.Put(b)
		x.Right(b)
		if x.Sum([]byte("123456789")) != 0xcbf43926 {
			t.Fatalf("behind %x the sum is another", b)
		}
	}
}
