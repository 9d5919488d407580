package quill_test

import (
	"bytes"
	"fmt"
	"maps"
	"math"
	"slices"
	"strconv"
	"strings"
	"testing"

	"scriptorium/api"
	"scriptorium/desc"
	"scriptorium/huff"
	"scriptorium/quill"
)

// dice are numbers that look like chance and are the same at each run.
type dice uint64

func (d *dice) below(n int) int {
	*d = *d*6364136223846793005 + 1442695040888963407
	return int(uint64(*d>>33) % uint64(n))
}

// number: as chapter 2 tells it, of 32 bits, in as few bytes as it needs; a signed one below 0 as 2^32 more.
func number(n int) []byte {
	if n < 0 {
		n += 1 << 32
	}
	switch {
	case n < 1<<7:
		return []byte{byte(n)}
	case n < 1<<14:
		return []byte{byte(0x80 + n>>8), byte(n)}
	case n < 1<<21:
		return []byte{byte(0xc0 + n>>16), byte(n >> 8), byte(n)}
	case n < 1<<28:
		return []byte{byte(0xe0 + n>>24), byte(n >> 16), byte(n >> 8), byte(n)}
	}
	return []byte{byte(0xf0 + n>>28), byte(n >> 20), byte(n >> 12), byte(n >> 4), byte(n % 16)}
}

// spelt: of entries that New takes, the words that chapter 5 gives them, as noughts and ones. A word is told here by how much room those ahead of it take, not by the one ahead.
func spelt(l []huff.Entry) map[int]string {
	all := map[int]string{}
	room := 0
	for size := 0; size <= api.MaxCode; size++ {
		for _, x := range l {
			if x.Size == size {
				all[x.Symbol] = fmt.Sprintf("%021b", room)[1:][:size]
				room += 1 << (api.MaxCode - size)
			}
		}
	}
	return all
}

// packed: noughts and ones as bytes, the first being the highest, noughts behind.
func packed(text string) []byte {
	text += strings.Repeat("0", (8-len(text)%8)%8)
	var b []byte
	for at := 0; at < len(text); at += 8 {
		n, _ := strconv.ParseUint(text[at:at+8], 2, 8)
		b = append(b, byte(n))
	}
	return b
}

// entries: of a number and its size, of the next number and its size, and so on.
func entries(all ...int) []huff.Entry {
	var l []huff.Entry
	for i := 0; i < len(all); i += 2 {
		l = append(l, huff.Entry{Symbol: all[i], Size: all[i+1]})
	}
	return l
}

// many: so many numbers that rise, all of one size.
func many(n, size int) []huff.Entry {
	var l []huff.Entry
	for i := range n {
		l = append(l, huff.Entry{Symbol: 1000*i - 9000, Size: size})
	}
	return l
}

func outside(block int) desc.Ints {
	return desc.Ints{Kind: desc.Outside, Block: block}
}

func words(l []huff.Entry) desc.Ints {
	return desc.Ints{Kind: desc.Words, Entries: l}
}

func fixed(least, bits int) desc.Ints {
	return desc.Ints{Kind: desc.Fixed, Least: least, Bits: bits}
}

func counted(block int, d desc.Ints) desc.Arrays {
	return desc.Arrays{Kind: desc.Count, Block: block, Ints: d}
}

func stopped(block int, stop byte) desc.Arrays {
	return desc.Arrays{Kind: desc.Stopped, Block: block, Stop: stop}
}

// wrong is a way of numbers that may not be, and its error.
type wrong struct {
	d    desc.Ints
	want api.Errno
}

// refused: ways at each border's other side, with what belongs to the other kinds being right.
func refused() []wrong {
	all := []wrong{
		{words(nil), api.ErrMany},
		{words([]huff.Entry{}), api.ErrMany},
		{words(many(257, 9)), api.ErrMany},
		{words(entries(api.MaxInt+1, 1)), api.ErrRange},
		{words(entries(-api.MaxInt-1, 1)), api.ErrRange},
		{words(entries(1, 21)), api.ErrRange},
		{words(entries(1, -1)), api.ErrRange},
		{words(entries(1, 0, 2, 1)), api.ErrCode},
		{words(entries(1, 1, 2, 1, 3, 20)), api.ErrCode},
		{words(entries(1, 1, 1, 1)), api.ErrOrder},
		{words(entries(2, 1, 1, 1)), api.ErrOrder},
		{desc.Ints{}, api.ErrKind},
	}
	for _, n := range []int{0, -1, 60001, 1<<32 + 1, math.MinInt, math.MaxInt} {
		all = append(all, wrong{outside(n), api.ErrRange})
	}
	for _, n := range []int{-api.MaxInt - 1, api.MaxInt + 1, 1 << 32, math.MinInt, math.MaxInt} {
		all = append(all, wrong{fixed(n, 5), api.ErrRange})
	}
	for _, n := range []int{-1, 32, 64, 1 << 32, math.MinInt, math.MaxInt} {
		all = append(all, wrong{fixed(3, n), api.ErrRange})
	}
	for kind := range 256 {
		if !slices.Contains([]int{1, 3, 6}, kind) {
			all = append(all, wrong{desc.Ints{Kind: desc.Kind(kind), Block: 1, Entries: entries(1, 0), Least: 1, Bits: 1}, api.ErrKind})
		}
	}
	return all
}

// plain is a quill told as simply as the chapter tells it: noughts and ones as a text, and blocks. It is what a Quill is held against.
type plain struct {
	row    string
	blocks map[int][]byte
}

// number: what a number adds to the row, and to a block; or an error.
func (p *plain) number(d desc.Ints, n int) (row string, block []byte, e api.Errno) {
	if e := d.Check(); e != api.OK {
		return "", nil, e
	}
	if n < -2147483647 || n > 2147483647 {
		return "", nil, api.ErrRange
	}
	switch d.Kind {
	case desc.Words:
		word, ok := spelt(d.Entries)[n]
		if !ok {
			return "", nil, api.ErrNone
		}
		return word, nil, api.OK
	case desc.Fixed:
		// Without noughts ahead, a number that fits has no more digits than there are bits.
		digits := strings.TrimPrefix(strconv.FormatInt(int64(n-d.Least), 2), "0")
		if n < d.Least || len(digits) > d.Bits {
			return "", nil, api.ErrRange
		}
		return strings.Repeat("0", d.Bits-len(digits)) + digits, nil, api.OK
	}
	return "", number(n), api.OK
}

// add: bytes into a block, which is there from now on.
func (p *plain) add(block int, b []byte) {
	if p.blocks == nil {
		p.blocks = map[int][]byte{}
	}
	p.blocks[block] = append(p.blocks[block], b...)
}

func (p *plain) int(d desc.Ints, n int) api.Errno {
	row, block, e := p.number(d, n)
	if e != api.OK {
		return e
	}
	p.row += row
	if d.Kind == desc.Outside {
		p.add(d.Block, block)
	}
	return api.OK
}

func (p *plain) array(d desc.Arrays, b []byte) api.Errno {
	if e := d.Check(); e != api.OK {
		return e
	}
	if d.Kind == desc.Stopped {
		if strings.Contains(string(b), string([]byte{d.Stop})) {
			return api.ErrForm
		}
		p.add(d.Block, append(bytes.Clone(b), d.Stop))
		return api.OK
	}
	if e := p.int(d.Ints, len(b)); e != api.OK {
		return e
	}
	p.add(d.Block, b)
	return api.OK
}

// holds: a quill has a row of these bits, and these blocks, and none beside them.
func holds(t *testing.T, q *quill.Quill, p plain) {
	t.Helper()
	if got := q.Row(); !bytes.Equal(got, packed(p.row)) {
		t.Fatalf("a row of %x, not %x (%s)", got, packed(p.row), p.row)
	}
	numbers := slices.Sorted(maps.Keys(p.blocks))
	if got := q.Blocks(); !slices.Equal(got, numbers) {
		t.Fatalf("blocks %v, not %v", got, numbers)
	}
	for _, n := range numbers {
		if got := q.Block(n); !bytes.Equal(got, p.blocks[n]) {
			t.Fatalf("block %d: %x, not %x", n, got, p.blocks[n])
		}
		if _, ok := p.blocks[n+1]; !ok && len(q.Block(n+1)) != 0 {
			t.Fatalf("block %d isn't there, but has bytes", n+1)
		}
	}
	for _, n := range []int{math.MinInt, -1, 0, 60001, math.MaxInt} {
		if len(q.Block(n)) != 0 {
			t.Fatalf("block %d can't be there, but has bytes", n)
		}
	}
}

// putsInt: a number is put, or refused, as the chapter tells it.
func putsInt(t *testing.T, q *quill.Quill, p *plain, d desc.Ints, n int) {
	t.Helper()
	want := p.int(d, n)
	if e := q.Int(d, n); e != want {
		t.Fatalf("%d by %v: error %d, not %d", n, d, int(e), int(want))
	}
}

// putsArray: likewise, of bytes.
func putsArray(t *testing.T, q *quill.Quill, p *plain, d desc.Arrays, b []byte) {
	t.Helper()
	want := p.array(d, b)
	if e := q.Array(d, b); e != want {
		t.Fatalf("%x by %v: error %d, not %d", b, d, int(e), int(want))
	}
}
