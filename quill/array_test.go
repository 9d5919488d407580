package quill_test

import (
	"bytes"
	"math"
	"slices"
	"testing"

	"scriptorium/api"
	"scriptorium/bits"
	"scriptorium/desc"
	"scriptorium/huff"
	"scriptorium/itf"
	"scriptorium/quill"
)

// made is what a quill should have: a row, and blocks.
type made struct {
	row    string
	blocks map[int]string
}

// isArray: bytes by a way, put alone, are such a row and such blocks, or an error, beside which there is nothing.
func isArray(t *testing.T, d desc.Arrays, b string, m made, want api.Errno) {
	t.Helper()
	q := quill.New()
	if e := q.Array(d, []byte(b)); e != want {
		t.Errorf("%q by %v: error %d, not %d", b, d, int(e), int(want))
	}
	if string(q.Row()) != m.row {
		t.Errorf("%q by %v: a row of %x, not %x", b, d, q.Row(), m.row)
	}
	if len(q.Blocks()) != len(m.blocks) || !slices.IsSorted(q.Blocks()) {
		t.Errorf("%q by %v: blocks %v", b, d, q.Blocks())
	}
	for _, n := range q.Blocks() {
		if block, ok := m.blocks[n]; !ok || string(q.Block(n)) != block {
			t.Errorf("%q by %v: block %d is %x, not %x", b, d, n, q.Block(n), block)
		}
	}
}

// TestStopped: P10.1; the bytes, and Stop behind them; ErrForm, if they have it, wherever it is.
func TestStopped(t *testing.T) {
	for _, c := range []struct {
		block int
		stop  byte
		b     string
		want  string
		e     api.Errno
	}{
		{4, 0, "ab", "ab\x00", api.OK},
		{4, 0, "", "\x00", api.OK},
		{4, 10, "", "\n", api.OK},
		{1, 10, "a", "a\n", api.OK},
		{60000, 255, "a\x00\x7f\x80\xfe", "a\x00\x7f\x80\xfe\xff", api.OK},
		{256, 'b', "a", "ab", api.OK},
		{4, 0, "\x00", "", api.ErrForm},
		{4, 0, "\x00ab", "", api.ErrForm},
		{4, 0, "a\x00b", "", api.ErrForm},
		{4, 0, "ab\x00", "", api.ErrForm},
		{4, 255, "ab\xff\xff", "", api.ErrForm},
		{4, 'b', "ab", "", api.ErrForm},
		{4, 128, "\x80", "", api.ErrForm},
	} {
		m := made{}
		if c.e == api.OK {
			m.blocks = map[int]string{c.block: c.want}
		}
		isArray(t, stopped(c.block, c.stop), c.b, m, c.e)
	}
}

// TestStoppedByEach: P10.1; any byte may be the one that ends; all others may be put then.
func TestStoppedByEach(t *testing.T) {
	var all []byte
	for c := range 256 {
		all = append(all, byte(c))
	}
	for stop := range 256 {
		q, p := quill.New(), plain{}
		d := stopped(1+stop, byte(stop))
		others := slices.Concat(all[:stop], all[stop+1:])
		putsArray(t, q, &p, d, all)
		putsArray(t, q, &p, d, all[:stop+1])
		putsArray(t, q, &p, d, all[stop:])
		holds(t, q, plain{})
		putsArray(t, q, &p, d, others)
		holds(t, q, p)
		if string(q.Block(1+stop)) != string(append(others, byte(stop))) {
			t.Errorf("stop %d: %x", stop, q.Block(1+stop))
		}
	}
}

// TestCounted: P10.1; their number ahead, by its own way; then the bytes.
func TestCounted(t *testing.T) {
	long := bytes.Repeat([]byte("xyz"), 100)
	for _, c := range []struct {
		d desc.Arrays
		b string
		m made
		e api.Errno
	}{
		{counted(7, outside(3)), "abc", made{"", map[int]string{3: "\x03", 7: "abc"}}, api.OK},
		{counted(3, outside(7)), "abc", made{"", map[int]string{7: "\x03", 3: "abc"}}, api.OK},
		{counted(7, outside(3)), string(long), made{"", map[int]string{3: "\x81\x2c", 7: string(long)}}, api.OK},
		{counted(7, outside(7)), "abc", made{"", map[int]string{7: "\x03abc"}}, api.OK},
		{counted(60000, outside(1)), "\x00\xff", made{"", map[int]string{1: "\x02", 60000: "\x00\xff"}}, api.OK},
		{counted(2, fixed(3, 4)), "abc", made{"\x00", map[int]string{2: "abc"}}, api.OK},
		{counted(2, fixed(3, 4)), "abcdefghij", made{"\x70", map[int]string{2: "abcdefghij"}}, api.OK},
		{counted(2, fixed(-1, 4)), "abc", made{"\x40", map[int]string{2: "abc"}}, api.OK},
		{counted(2, fixed(3, 0)), "abc", made{"", map[int]string{2: "abc"}}, api.OK},
		{counted(2, words(entries(-4, 1, 2, 2, 3, 2))), "abc", made{"\xc0", map[int]string{2: "abc"}}, api.OK},
		{counted(2, words(entries(3, 0))), "abc", made{"", map[int]string{2: "abc"}}, api.OK},
		// Their number can't be put: neither are they.
		{counted(2, fixed(3, 4)), "ab", made{}, api.ErrRange},
		{counted(2, fixed(3, 4)), string(long), made{}, api.ErrRange},
		{counted(2, fixed(3, 0)), "ab", made{}, api.ErrRange},
		{counted(2, fixed(3, 0)), "", made{}, api.ErrRange},
		{counted(2, fixed(api.MaxInt, 31)), "abc", made{}, api.ErrRange},
		{counted(2, words(entries(-4, 1, 2, 2, 3, 2))), "a", made{}, api.ErrNone},
		{counted(2, words(entries(-4, 1, 2, 2, 3, 2))), "", made{}, api.ErrNone},
		{counted(2, words(entries(-4, 1, 2, 2, 3, 2))), "abcd", made{}, api.ErrNone},
		{counted(2, words(entries(3, 0))), "", made{}, api.ErrNone},
	} {
		isArray(t, c.d, c.b, c.m, c.e)
	}
}

// TestCountedNothing: P10.1; of Count, a block is there even if nothing was put into it.
func TestCountedNothing(t *testing.T) {
	isArray(t, counted(7, outside(3)), "", made{"", map[int]string{3: "\x00", 7: ""}}, api.OK)
	isArray(t, counted(7, outside(7)), "", made{"", map[int]string{7: "\x00"}}, api.OK)
	isArray(t, counted(7, fixed(0, 0)), "", made{"", map[int]string{7: ""}}, api.OK)
	isArray(t, counted(7, fixed(-1, 1)), "", made{"\x80", map[int]string{7: ""}}, api.OK)
	isArray(t, counted(7, words(entries(0, 0))), "", made{"", map[int]string{7: ""}}, api.OK)
	q := quill.New()
	d := counted(9, fixed(0, 3))
	if q.Array(d, nil) != api.OK || q.Array(d, []byte{}) != api.OK || q.Array(d, []byte("ab")) != api.OK || q.Array(d, nil) != api.OK {
		t.Error("nothing isn't put")
	}
	if string(q.Block(9)) != "ab" || !slices.Equal(q.Blocks(), []int{9}) || string(q.Row()) != "\x01\x00" {
		t.Errorf("blocks %v, %x; a row of %x", q.Blocks(), q.Block(9), q.Row())
	}
}

// TestManyBytes: P10.1; the chapter sets no limit to them but that of their number.
func TestManyBytes(t *testing.T) {
	b := bytes.Repeat([]byte{5}, api.MaxBytes+1)
	q := quill.New()
	if e := q.Array(counted(2, outside(1)), b); e != api.OK || !bytes.Equal(q.Block(2), b) || string(q.Block(1)) != "\xd0\x00\x01" {
		t.Errorf("error %d, %d bytes, their number %x", int(e), len(q.Block(2)), q.Block(1))
	}
	if e := q.Array(stopped(3, 9), b); e != api.OK || len(q.Block(3)) != len(b)+1 {
		t.Errorf("error %d, %d bytes", int(e), len(q.Block(3)))
	}
}

// TestWaysOfBytesComeFirst: P10.1 and R2; what is wrong with a way, ahead of what is wrong with bytes; nothing is put.
func TestWaysOfBytesComeFirst(t *testing.T) {
	for _, b := range []string{"", "a", "\x00\x0a"} {
		for _, c := range refused() {
			isArray(t, counted(3, c.d), b, made{}, c.want)
			isArray(t, counted(0, c.d), b, made{}, api.ErrRange)
			d := stopped(3, 'z')
			d.Ints = c.d
			isArray(t, d, b, made{"", map[int]string{3: b + "z"}}, api.OK)
		}
		for _, block := range []int{0, -1, 60001, 1<<32 + 1, math.MinInt, math.MaxInt} {
			isArray(t, stopped(block, 0), b, made{}, api.ErrRange)
			isArray(t, stopped(block, 'a'), b, made{}, api.ErrRange)
			isArray(t, counted(block, outside(1)), b, made{}, api.ErrRange)
			isArray(t, counted(block, fixed(9, 0)), b, made{}, api.ErrRange)
			isArray(t, counted(block, words(entries(9, 0))), b, made{}, api.ErrRange)
		}
		for kind := range 256 {
			if kind != 4 && kind != 5 {
				isArray(t, desc.Arrays{Kind: desc.Kind(kind), Block: 1, Ints: fixed(9, 0)}, b, made{}, api.ErrKind)
			}
		}
	}
}

// TestOneBlockOfAll: P10.1; numbers and bytes that go into one block stand in it in their order.
func TestOneBlockOfAll(t *testing.T) {
	q := quill.New()
	for _, e := range []api.Errno{
		q.Int(outside(5), 1),
		q.Array(stopped(5, 0), []byte("ab")),
		q.Array(counted(5, outside(5)), []byte("cd")),
		q.Array(counted(5, fixed(0, 2)), []byte("efg")),
		q.Int(outside(5), 300),
		q.Array(counted(5, outside(6)), []byte("h")),
		q.Array(stopped(5, 1), nil),
	} {
		if e != api.OK {
			t.Errorf("error %d", int(e))
		}
	}
	if string(q.Block(5)) != "\x01ab\x00\x02cdefg\x81\x2ch\x01" || string(q.Block(6)) != "\x01" || string(q.Row()) != "\xc0" || !slices.Equal(q.Blocks(), []int{5, 6}) {
		t.Errorf("blocks %v, %x, %x; a row of %x", q.Blocks(), q.Block(5), q.Block(6), q.Row())
	}
}

// TestBlocksRise: P10.1; in whatever order they came, each once.
func TestBlocksRise(t *testing.T) {
	d := dice(102)
	for size := 1; size < 300; size += 23 {
		q, p := quill.New(), plain{}
		for range size {
			n := 1 + d.below(60000)
			putsInt(t, q, &p, outside(n), n)
			putsArray(t, q, &p, stopped(1+d.below(60000), 0), []byte("a"))
			putsArray(t, q, &p, counted(1+d.below(60000), fixed(0, 1)), nil)
		}
		holds(t, q, p)
	}
}

// TestBytesTakenBack: P10.1; what was put is there for those who take numbers, words and bytes, in the same order.
func TestBytesTakenBack(t *testing.T) {
	var l []huff.Entry
	for i := range 16 {
		l = append(l, huff.Entry{Symbol: i, Size: 1 + min(i, 14)})
	}
	code, _ := huff.New(l)
	ways := []desc.Arrays{stopped(8, 77), counted(8, outside(8)), counted(8, outside(9)), counted(8, fixed(-5, 5)), counted(8, words(l))}
	d := dice(103)
	q := quill.New()
	var asked []int
	var all [][]byte
	for range 3000 {
		way := d.below(len(ways))
		b := bytes.Repeat([]byte{byte(d.below(77)), byte(78 + d.below(178))}, 8)[:d.below(16)]
		if e := q.Array(ways[way], b); e != api.OK {
			t.Fatal(int(e))
		}
		asked, all = append(asked, way), append(all, b)
	}
	row, block, numbers := bits.Read(q.Row()), itf.Read(q.Block(8)), itf.Read(q.Block(9))
	for i, way := range asked {
		var b []byte
		switch way {
		case 0:
			b = block.Until(77)
		case 1:
			b = block.Bytes(block.Signed())
		case 2:
			b = block.Bytes(numbers.Signed())
		case 3:
			b = block.Bytes(int(row.Take(5)) - 5)
		case 4:
			b = block.Bytes(code.Take(row))
		}
		if !bytes.Equal(b, all[i]) {
			t.Fatalf("the %d-th: %x, not %x", i, b, all[i])
		}
	}
	if row.End() != api.OK || block.End() != api.OK || numbers.End() != api.OK {
		t.Error("something is left")
	}
}
