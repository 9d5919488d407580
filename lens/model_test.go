package lens_test

import (
	"bytes"
	"fmt"
	"maps"
	"math"
	"math/bits"
	"slices"
	"strconv"
	"strings"
	"testing"

	"scriptorium/api"
	"scriptorium/desc"
	"scriptorium/huff"
	"scriptorium/lens"
)

// dice are numbers that look like chance and are the same at each run.
type dice uint64

func (d *dice) below(n int) int {
	*d = *d*6364136223846793005 + 1442695040888963407
	return int(uint64(*d>>33) % uint64(n))
}

// number: as chapter 2 tells it, of 32 bits, in as few bytes as it needs; a signed one below 0 as 2^32 more.
func number(n int) []byte {
	if n < 0 {
		n += 1 << 32
	}
	switch {
	case n < 1<<7:
		return []byte{byte(n)}
	case n < 1<<14:
		return []byte{byte(0x80 + n>>8), byte(n)}
	case n < 1<<21:
		return []byte{byte(0xc0 + n>>16), byte(n >> 8), byte(n)}
	case n < 1<<28:
		return []byte{byte(0xe0 + n>>24), byte(n >> 16), byte(n >> 8), byte(n)}
	}
	return []byte{byte(0xf0 + n>>28), byte(n >> 20), byte(n >> 12), byte(n >> 4), byte(n % 16)}
}

// numberOf: back, and how many bytes it has; bytes that number doesn't make are ErrForm.
func numberOf(b []byte) (n, size int, e api.Errno) {
	if len(b) == 0 {
		return 0, 0, api.ErrShort
	}
	size = 1 + min(bits.LeadingZeros8(^b[0]), 4)
	if len(b) < size {
		return 0, 0, api.ErrShort
	}
	n = int(b[0]) % (1 << max(8-size, 4))
	for _, c := range b[1:size] {
		n = n<<8 + int(c)
	}
	if size == 5 {
		n = n>>8<<4 + n%16
	}
	if !bytes.Equal(number(n), b[:size]) {
		return 0, 0, api.ErrForm
	}
	return int(int32(n)), size, api.OK
}

// spelt: of entries that New takes, the words that chapter 5 gives them, as noughts and ones. A word is told here by how much room those ahead of it take, not by the one ahead.
func spelt(l []huff.Entry) map[int]string {
	all := map[int]string{}
	room := 0
	for size := 0; size <= api.MaxCode; size++ {
		for _, x := range l {
			if x.Size == size {
				all[x.Symbol] = fmt.Sprintf("%021b", room)[1:][:size]
				room += 1 << (api.MaxCode - size)
			}
		}
	}
	return all
}

// packed: noughts and ones as bytes, the first being the highest, noughts behind.
func packed(text string) []byte {
	text += strings.Repeat("0", (8-len(text)%8)%8)
	var b []byte
	for at := 0; at < len(text); at += 8 {
		n, _ := strconv.ParseUint(text[at:at+8], 2, 8)
		b = append(b, byte(n))
	}
	return b
}

// unpacked: bytes as noughts and ones.
func unpacked(b []byte) string {
	text := ""
	for _, c := range b {
		text += fmt.Sprintf("%08b", c)
	}
	return text
}

// entries: of a number and its size, of the next number and its size, and so on.
func entries(all ...int) []huff.Entry {
	var l []huff.Entry
	for i := 0; i < len(all); i += 2 {
		l = append(l, huff.Entry{Symbol: all[i], Size: all[i+1]})
	}
	return l
}

// many: so many numbers that rise, all of one size.
func many(n, size int) []huff.Entry {
	var l []huff.Entry
	for i := range n {
		l = append(l, huff.Entry{Symbol: 1000*i - 9000, Size: size})
	}
	return l
}

func outside(block int) desc.Ints {
	return desc.Ints{Kind: desc.Outside, Block: block}
}

func words(l []huff.Entry) desc.Ints {
	return desc.Ints{Kind: desc.Words, Entries: l}
}

func fixed(least, bits int) desc.Ints {
	return desc.Ints{Kind: desc.Fixed, Least: least, Bits: bits}
}

func counted(block int, d desc.Ints) desc.Arrays {
	return desc.Arrays{Kind: desc.Count, Block: block, Ints: d}
}

func stopped(block int, stop byte) desc.Arrays {
	return desc.Arrays{Kind: desc.Stopped, Block: block, Stop: stop}
}

// wrong is a way of numbers that may not be, and its error.
type wrong struct {
	d    desc.Ints
	want api.Errno
}

// refused: ways at each border's other side, with what belongs to the other kinds being right.
func refused() []wrong {
	all := []wrong{
		{words(nil), api.ErrMany},
		{words([]huff.Entry{}), api.ErrMany},
		{words(many(257, 9)), api.ErrMany},
		{words(entries(api.MaxInt+1, 1)), api.ErrRange},
		{words(entries(-api.MaxInt-1, 1)), api.ErrRange},
		{words(entries(1, 21)), api.ErrRange},
		{words(entries(1, -1)), api.ErrRange},
		{words(entries(1, 0, 2, 1)), api.ErrCode},
		{words(entries(1, 1, 2, 1, 3, 20)), api.ErrCode},
		{words(entries(1, 1, 1, 1)), api.ErrOrder},
		{words(entries(2, 1, 1, 1)), api.ErrOrder},
		{desc.Ints{}, api.ErrKind},
	}
	for _, n := range []int{0, -1, 60001, 1<<32 + 1, math.MinInt, math.MaxInt} {
		all = append(all, wrong{outside(n), api.ErrRange})
	}
	for _, n := range []int{-api.MaxInt - 1, api.MaxInt + 1, 1 << 32, math.MinInt, math.MaxInt} {
		all = append(all, wrong{fixed(n, 5), api.ErrRange})
	}
	for _, n := range []int{-1, 32, 64, 1 << 32, math.MinInt, math.MaxInt} {
		all = append(all, wrong{fixed(3, n), api.ErrRange})
	}
	for kind := range 256 {
		if !slices.Contains([]int{1, 3, 6}, kind) {
			all = append(all, wrong{desc.Ints{Kind: desc.Kind(kind), Block: 1, Entries: entries(1, 0), Least: 1, Bits: 1}, api.ErrKind})
		}
	}
	return all
}

// plain is a lens told as simply as the chapter tells it: what is left of noughts and ones, as a text, and of blocks. It is what a Lens is held against.
type plain struct {
	row    string
	blocks map[int]string
	err    api.Errno
}

func (p *plain) wrong(e api.Errno) {
	if p.err == api.OK {
		p.err = e
	}
}

// next: the next number, whatever it is, what is left behind it of the row, and of a block; or an error.
func (p *plain) next(d desc.Ints) (n int, row, block string, e api.Errno) {
	if e := d.Check(); e != api.OK {
		return 0, "", "", e
	}
	switch d.Kind {
	case desc.Outside:
		b, ok := p.blocks[d.Block]
		if !ok {
			return 0, "", "", api.ErrNone
		}
		n, size, e := numberOf([]byte(b))
		return n, p.row, b[size:], e
	case desc.Words:
		for n, word := range spelt(d.Entries) {
			if strings.HasPrefix(p.row, word) {
				return n, p.row[len(word):], "", api.OK
			}
		}
		return 0, "", "", api.ErrShort
	}
	if len(p.row) < d.Bits {
		return 0, "", "", api.ErrShort
	}
	// A nought ahead, so that there are digits even of no bits.
	more, _ := strconv.ParseInt("0"+p.row[:d.Bits], 2, 64)
	return d.Least + int(more), p.row[d.Bits:], "", api.OK
}

// within: the next number; 0 beside an error, be it one of before.
func (p *plain) within(d desc.Ints, from, to int) int {
	if p.err != api.OK {
		return 0
	}
	n, row, block, e := p.next(d)
	if e == api.OK && (n < -2147483647 || n > 2147483647 || n < from || n > to) {
		e = api.ErrRange
	}
	if e != api.OK {
		p.wrong(e)
		return 0
	}
	p.row = row
	if d.Kind == desc.Outside {
		p.blocks[d.Block] = block
	}
	return n
}

func (p *plain) int(d desc.Ints) int {
	return p.within(d, math.MinInt, math.MaxInt)
}

// array: the next bytes; none beside an error, be it one of before.
func (p *plain) array(d desc.Arrays) string {
	p.wrong(d.Check())
	size := 0
	if d.Kind == desc.Count {
		size = p.within(d.Ints, 0, 1048576)
	}
	if p.err != api.OK {
		return ""
	}
	b, ok := p.blocks[d.Block]
	if !ok {
		p.wrong(api.ErrNone)
		return ""
	}
	stop := 0
	if d.Kind == desc.Stopped {
		size, stop = strings.IndexByte(b, d.Stop), 1
	}
	if size < 0 || size > len(b) {
		p.wrong(api.ErrShort)
		return ""
	}
	p.blocks[d.Block] = b[size+stop:]
	return b[:size]
}

func (p *plain) end() api.Errno {
	rest := len(p.row) >= 8 || strings.Contains(p.row, "1")
	for _, b := range p.blocks {
		rest = rest || b != ""
	}
	switch {
	case p.err != api.OK:
		return p.err
	case rest:
		return api.ErrRest
	}
	return api.OK
}

// both: a lens, and a plain one, of the same row and blocks.
func both(core string, blocks map[int]string) (*lens.Lens, *plain) {
	of := map[int][]byte{}
	for n, b := range blocks {
		of[n] = []byte(b)
	}
	left := maps.Clone(blocks)
	if left == nil {
		left = map[int]string{}
	}
	return lens.New([]byte(core), of), &plain{row: unpacked([]byte(core)), blocks: left}
}

// stands: a lens has the error that the plain one has, and is as much at its end; all asked twice, since neither changes it.
func stands(t *testing.T, x *lens.Lens, p *plain) {
	t.Helper()
	for range 2 {
		if x.Err() != p.err {
			t.Fatalf("error %d, not %d", int(x.Err()), int(p.err))
		}
		if x.End() != p.end() {
			t.Fatalf("at its end %d, not %d", int(x.End()), int(p.end()))
		}
	}
}

// takesInt: the next number is the plain one's, or its error is.
func takesInt(t *testing.T, x *lens.Lens, p *plain, d desc.Ints) {
	t.Helper()
	want := p.int(d)
	if n := x.Int(d); n != want {
		t.Fatalf("by %v: %d, not %d", d, n, want)
	}
	stands(t, x, p)
}

// takesWithin: likewise, within two numbers.
func takesWithin(t *testing.T, x *lens.Lens, p *plain, d desc.Ints, from, to int) {
	t.Helper()
	want := p.within(d, from, to)
	if n := x.Within(d, from, to); n != want {
		t.Fatalf("by %v, from %d to %d: %d, not %d", d, from, to, n, want)
	}
	stands(t, x, p)
}

// takesArray: likewise, of bytes.
func takesArray(t *testing.T, x *lens.Lens, p *plain, d desc.Arrays) {
	t.Helper()
	want := p.array(d)
	if b := x.Array(d); string(b) != want {
		t.Fatalf("by %v: %x, not %x", d, b, want)
	}
	stands(t, x, p)
}
