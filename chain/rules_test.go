package chain_test

import (
	"bytes"
	"testing"

	"scriptorium/api"
	"scriptorium/chain"
)

// TestNothingIsShared: R6; what is handed in isn't changed, spare room included, and no answer is of its memory.
func TestNothingIsShared(t *testing.T) {
	const text = "some bytes, some bytes, spare room"
	all := []byte(text)
	answers := [][]byte{chain.Put(all[:10]), chain.Put(all[:0])}
	packed := append(chain.Put([]byte(text)), "spare"...)
	before := bytes.Clone(packed)
	back, e := chain.Take(packed[:len(packed)-5], 100)
	if e != api.OK || string(back) != text {
		t.Errorf("%q came back, error %d", back, int(e))
	}
	for _, b := range append(answers, back) {
		whole := b[:cap(b)]
		for i := range whole {
			whole[i] = '!'
		}
	}
	if string(all) != text || !bytes.Equal(packed, before) {
		t.Error("what was handed in was changed, or an answer is of its memory")
	}
}

// TestNilAndEmpty: R5.
func TestNilAndEmpty(t *testing.T) {
	for _, b := range [][]byte{nil, {}} {
		if got := chain.Put(b); string(got) != "\x00" {
			t.Errorf("no bytes: %x", got)
		}
		if got, e := chain.Take(b, 10); e == api.OK || len(got) != 0 {
			t.Errorf("no bytes, not even how many: %x, error %d", got, int(e))
		}
	}
	for _, most := range []int{-1, 0, 1, api.MaxBlock} {
		if got, e := chain.Take([]byte{0}, most); e != api.OK || len(got) != 0 {
			t.Errorf("no bytes: %x, error %d, of at most %d", got, int(e), most)
		}
	}
}

// TestAnswersHangOnArgumentsAlone: R8; whatever was asked ahead, and however often: maps have no order.
func TestAnswersHangOnArgumentsAlone(t *testing.T) {
	ask := func() string {
		b := chain.Put([]byte("abbcbbcba, a sentence, and one more"))
		back, _ := chain.Take(b, 99)
		return string(b) + string(back)
	}
	first := ask()
	for _, b := range samples() {
		in := chain.Put(b)
		if !bytes.Equal(in, chain.Put(b)) {
			t.Fatalf("%x is put in two ways", b)
		}
		chain.Take(in, len(b))
		chain.Take(in[1:], len(b))
		if ask() != first {
			t.Fatal("answers hang on each other")
		}
	}
}
