package wire_test

import (
	"fmt"
	"math"
	"strings"
	"testing"

	"scriptorium/api"
	"scriptorium/wire"
)

// plain is a reader told as simply as the chapter tells it: what a Reader is held against.
type plain struct {
	rest string
	at   int
	err  api.Errno
}

// have: so many are taken, if nothing is wrong and they are there.
func (p *plain) have(n int) string {
	if p.err != api.OK {
		return ""
	}
	if n < 0 || n > len(p.rest) {
		p.err = api.ErrShort
		return ""
	}
	s := p.rest[:n]
	p.rest, p.at = p.rest[n:], p.at+n
	return s
}

func (p *plain) until(stop byte) string {
	n := strings.IndexByte(p.rest, stop)
	if n < 0 {
		return p.have(-1)
	}
	return strings.TrimSuffix(p.have(n+1), string([]byte{stop}))
}

func (p *plain) word() string {
	n := uint32(0)
	for i := range 4 {
		if s := p.have(1); s != "" {
			n += uint32(s[0]) << (8 * i)
		}
	}
	if p.err != api.OK {
		n = 0
	}
	return fmt.Sprint(n)
}

func (p *plain) one() string {
	if s := p.have(1); s != "" {
		return fmt.Sprint(s[0])
	}
	return "0"
}

func (p *plain) fail(e api.Errno) string {
	if p.err == api.OK {
		p.err = e
	}
	return ""
}

func (p *plain) all() string {
	left, end := len(p.rest), p.err
	if p.err != api.OK {
		left = 0
	}
	if left > 0 {
		end = api.ErrRest
	}
	return numbers(p.err, p.at, left, end)
}

// call is one call, of a Reader and of a plain one.
type call struct {
	name string
	real func(r *wire.Reader) string
	told func(p *plain) string
}

func calls() []call {
	cs := []call{
		{"Byte", func(r *wire.Reader) string { return fmt.Sprint(r.Byte()) }, (*plain).one},
		{"Word", func(r *wire.Reader) string { return fmt.Sprint(r.Word()) }, (*plain).word},
	}
	for _, n := range []int{0, 1, 3, -1, math.MaxInt, math.MinInt} {
		cs = append(cs, call{fmt.Sprintf("Bytes(%d)", n),
			func(r *wire.Reader) string { return string(r.Bytes(n)) },
			func(p *plain) string { return p.have(n) }})
	}
	for _, c := range []byte{0, 1} {
		cs = append(cs, call{fmt.Sprintf("Until(%d)", c),
			func(r *wire.Reader) string { return string(r.Until(c)) },
			func(p *plain) string { return p.until(c) }})
	}
	for _, e := range []api.Errno{api.OK, api.ErrForm} {
		cs = append(cs, call{fmt.Sprintf("Fail(%d)", int(e)),
			func(r *wire.Reader) string { r.Fail(e); return "" },
			func(p *plain) string { return p.fail(e) }})
	}
	return cs
}

func told(r *wire.Reader) string {
	return numbers(r.Err(), r.At(), r.Left(), r.End())
}

// numbers: as a text; errors by their numbers, since their word is one for all.
func numbers(e api.Errno, at, left int, end api.Errno) string {
	return fmt.Sprintf("error %d, at %d, left %d, end %d", int(e), at, left, int(end))
}

// follow makes each row of so many more calls, on copies of both readers.
func follow(t *testing.T, cs []call, r wire.Reader, p plain, depth int, path string) {
	for _, c := range cs {
		r1, p1 := r, p
		got, want := c.real(&r1), c.told(&p1)
		if got != want || told(&r1) != p1.all() {
			t.Fatalf("%s %s: %q, %s; want %q, %s", path, c.name, got, told(&r1), want, p1.all())
		}
		if depth > 1 {
			follow(t, cs, r1, p1, depth-1, path+" "+c.name)
		}
	}
}

// TestEveryRowOfCalls: P1 (none panics) and P1.1, of all short rows of calls on all short bytes.
func TestEveryRowOfCalls(t *testing.T) {
	cs := calls()
	for size := range 7 {
		for n := range 1 << size {
			in := make([]byte, size)
			for i := range in {
				in[i] = byte(n >> i & 1)
			}
			follow(t, cs, *wire.Read(in), plain{rest: string(in)}, 3, fmt.Sprintf("%x:", in))
		}
	}
}

// TestNilDoesNothing: R7.
func TestNilDoesNothing(t *testing.T) {
	var r *wire.Reader
	r.Fail(api.ErrForm)
	if r.Err() != api.ErrNil || r.End() != api.ErrNil {
		t.Error("a nil Reader's error")
	}
	if r.At() != 0 || r.Left() != 0 || r.Byte() != 0 || r.Word() != 0 {
		t.Error("a nil Reader's numbers")
	}
	for _, n := range []int{0, 1, -1, math.MaxInt, math.MinInt} {
		if len(r.Bytes(n)) != 0 {
			t.Error("a nil Reader's bytes")
		}
	}
	if len(r.Until(0)) != 0 {
		t.Error("a nil Reader's bytes up to a stop")
	}
	var w *wire.Writer
	w.Byte(1)
	w.Put([]byte("x"))
	w.Put(nil)
	w.Word(1)
	if w.Len() != 0 || len(w.Bytes()) != 0 {
		t.Error("a nil Writer has bytes")
	}
}

// TestNoBytes: R5; nil and empty are the same, and a Reader without bytes is one.
func TestNoBytes(t *testing.T) {
	for _, r := range []*wire.Reader{wire.Read(nil), wire.Read([]byte{}), {}} {
		state(t, "no bytes", r, 0, 0, api.OK)
		if len(r.Bytes(0)) != 0 || r.End() != api.OK {
			t.Error("no bytes of none aren't taken")
		}
		if len(r.Until(0)) != 0 {
			t.Error("bytes of none")
		}
		ended(t, "Until of none", r, 0, api.ErrShort)
	}
}

// roomy: bytes with spare room behind them, and all of that memory.
func roomy(text string) (b, all []byte) {
	all = []byte(text + "spare")
	return all[:len(text)], all
}

// spoil changes bytes and the spare room behind them.
func spoil(b []byte) {
	b = b[:cap(b)]
	for i := range b {
		b[i] ^= 0xff
	}
}

// TestReaderKeepsNothingHandedIn: R6.
func TestReaderKeepsNothingHandedIn(t *testing.T) {
	b, all := roomy("ab\x00cdefg")
	r := wire.Read(b)
	r.Until(0)
	r.Bytes(1)
	if string(all) != "ab\x00cdefgspare" {
		t.Errorf("the reader changed what it was given: %q", all)
	}
	spoil(b)
	if got := string(r.Bytes(4)); got != "defg" {
		t.Errorf("the reader hangs on what it was given: %q", got)
	}
}

// TestReaderAnswersNewMemory: R6.
func TestReaderAnswersNewMemory(t *testing.T) {
	in := []byte("ab\x00cdefgh")
	r := wire.Read(in)
	again := *r
	first := r.Until(0)
	second := r.Bytes(2)
	spoil(first)
	if string(second) != "cd" {
		t.Errorf("two answers share memory: %q", second)
	}
	spoil(second)
	if got := string(r.Bytes(4)); got != "efgh" {
		t.Errorf("an answer shares the reader's memory: %q", got)
	}
	if got := string(again.Bytes(9)); got != "ab\x00cdefgh" {
		t.Errorf("an answer shares memory with the reader's copy: %q", got)
	}
	if string(in) != "ab\x00cdefgh" {
		t.Errorf("an answer shares memory with what was handed in: %q", in)
	}
}

// TestWriterKeepsNothingHandedIn: R6.
func TestWriterKeepsNothingHandedIn(t *testing.T) {
	b, all := roomy("abc")
	w := &wire.Writer{}
	w.Put(b)
	w.Byte('d')
	w.Word(0)
	if string(all) != "abcspare" {
		t.Errorf("the writer changed what it was given: %q", all)
	}
	spoil(b)
	holds(t, "what was handed in is changed", w, "abcd\x00\x00\x00\x00")
}

// TestWriterAnswersNewMemory: R6.
func TestWriterAnswersNewMemory(t *testing.T) {
	w := &wire.Writer{}
	w.Put([]byte("abc"))
	first, second := w.Bytes(), w.Bytes()
	spoil(first)
	if string(second) != "abc" {
		t.Errorf("two answers share memory: %q", second)
	}
	w.Byte('d')
	spoil(second)
	holds(t, "an answer is changed", w, "abcd")
	third := w.Bytes()
	w.Put([]byte("efg"))
	if string(third) != "abcd" {
		t.Errorf("an answer changes with the writer: %q", third)
	}
}

// TestObjectsStandAlone: R8; what one is told doesn't show in another.
func TestObjectsStandAlone(t *testing.T) {
	in := []byte("abcd")
	a, b := wire.Read(in), wire.Read(in)
	a.Bytes(2)
	a.Fail(api.ErrSum)
	state(t, "the other reader", b, 0, 4, api.OK)
	if string(b.Bytes(4)) != "abcd" {
		t.Error("a reader hangs on another")
	}
	v, w := &wire.Writer{}, &wire.Writer{}
	v.Put(in)
	w.Put(in)
	v.Byte('v')
	w.Byte('w')
	holds(t, "one writer", v, "abcdv")
	holds(t, "the other writer", w, "abcdw")
}
