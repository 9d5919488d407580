package quill_test

import (
	"math"
	"slices"
	"testing"

	"scriptorium/api"
	"scriptorium/bits"
	"scriptorium/desc"
	"scriptorium/huff"
	"scriptorium/itf"
	"scriptorium/quill"
)

// isInt: a number by a way, put alone, is such a row and such a block (its number, if it is above 0), or an error, beside which there is nothing.
func isInt(t *testing.T, d desc.Ints, n int, row string, block int, b string, want api.Errno) {
	t.Helper()
	q := quill.New()
	if e := q.Int(d, n); e != want {
		t.Errorf("%d by %v: error %d, not %d", n, d, int(e), int(want))
	}
	if string(q.Row()) != row {
		t.Errorf("%d by %v: a row of %x, not %x", n, d, q.Row(), row)
	}
	var blocks []int
	if block > 0 {
		blocks = []int{block}
	}
	if !slices.Equal(q.Blocks(), blocks) || string(q.Block(block)) != b {
		t.Errorf("%d by %v: blocks %v, %x", n, d, q.Blocks(), q.Block(block))
	}
}

// TestNew: P10.1; nothing was put.
func TestNew(t *testing.T) {
	holds(t, quill.New(), plain{})
}

// TestOutside: P10.1; a signed number of chapter 2, in the way's block.
func TestOutside(t *testing.T) {
	for _, c := range []struct {
		n    int
		want string
	}{
		{0, "\x00"},
		{127, "\x7f"},
		{128, "\x80\x80"},
		{300, "\x81\x2c"},
		{-1, "\xff\xff\xff\xff\x0f"},
		{-300, "\xff\xff\xff\xed\x04"},
		{2147483647, "\xf7\xff\xff\xff\x0f"},
		{-2147483647, "\xf8\x00\x00\x00\x01"},
	} {
		for _, block := range []int{1, 2, 256, 59999, 60000} {
			isInt(t, outside(block), c.n, "", block, c.want, api.OK)
		}
	}
}

// TestFixed: P10.1; less Least, in so many bits, the highest first.
func TestFixed(t *testing.T) {
	for _, c := range []struct {
		least, bits, n int
		row            string
		want           api.Errno
	}{
		{10, 2, 10, "\x00", api.OK},
		{10, 2, 11, "\x40", api.OK},
		{10, 2, 13, "\xc0", api.OK},
		{10, 2, 14, "", api.ErrRange},
		{10, 2, 9, "", api.ErrRange},
		{10, 2, -11, "", api.ErrRange},
		{-5, 4, -5, "\x00", api.OK},
		{-5, 4, 0, "\x50", api.OK},
		{-5, 4, 10, "\xf0", api.OK},
		{-5, 4, 11, "", api.ErrRange},
		{-5, 4, -6, "", api.ErrRange},
		{7, 0, 7, "", api.OK},
		{7, 0, 6, "", api.ErrRange},
		{7, 0, 8, "", api.ErrRange},
		{0, 8, 255, "\xff", api.OK},
		{0, 8, 256, "", api.ErrRange},
		{0, 31, 2147483647, "\xff\xff\xff\xfe", api.OK},
		{0, 31, 5, "\x00\x00\x00\x0a", api.OK},
		{-1, 31, 2147483646, "\xff\xff\xff\xfe", api.OK},
		{-1, 31, 2147483647, "", api.ErrRange},
		{-2147483647, 31, -2147483647, "\x00\x00\x00\x00", api.OK},
		{-2147483647, 31, 0, "\xff\xff\xff\xfe", api.OK},
		{-2147483647, 31, 1, "", api.ErrRange},
		{-2147483647, 31, 2147483647, "", api.ErrRange},
		{-2147483647, 0, -2147483647, "", api.OK},
		{2147483647, 31, 2147483647, "\x00\x00\x00\x00", api.OK},
		{2147483647, 31, 2147483646, "", api.ErrRange},
		{2147483647, 31, -2147483647, "", api.ErrRange},
		{2147483647, 0, 2147483647, "", api.OK},
		// They would fit, but may not be at all.
		{-2147483647, 31, -2147483648, "", api.ErrRange},
		{2147483647, 31, 2147483648, "", api.ErrRange},
	} {
		isInt(t, fixed(c.least, c.bits), c.n, c.row, 0, "", c.want)
	}
}

// TestFixedBorders: P10.1; of each number of bits, the first and the last that fit, and their neighbours.
func TestFixedBorders(t *testing.T) {
	for _, least := range []int{-api.MaxInt, -1 << 20, -1, 0, 1, 12345, 1 << 30, api.MaxInt} {
		for size := range 32 {
			q, p := quill.New(), plain{}
			last := least + 1<<size - 1
			for _, n := range []int{least - 1, least, least + 1, last - 1, last, last + 1, least + 1<<32, least - 1<<32} {
				putsInt(t, q, &p, fixed(least, size), n)
				holds(t, q, p)
			}
		}
	}
}

// TestWords: P10.1; a number's word, or ErrNone.
func TestWords(t *testing.T) {
	some := entries(-4, 1, 2, 2, 9, 2)
	for _, c := range []struct {
		l    []huff.Entry
		n    int
		row  string
		want api.Errno
	}{
		{some, -4, "\x00", api.OK},
		{some, 2, "\x80", api.OK},
		{some, 9, "\xc0", api.OK},
		{some, 4, "", api.ErrNone},
		{some, -2, "", api.ErrNone},
		{some, 0, "", api.ErrNone},
		{some, api.MaxInt, "", api.ErrNone},
		{some, -api.MaxInt, "", api.ErrNone},
		{entries(5, 0), 5, "", api.OK},
		{entries(5, 0), 0, "", api.ErrNone},
		{entries(5, 1), 5, "\x00", api.OK},
		{entries(5, 20), 5, "\x00\x00\x00", api.OK},
		{entries(-api.MaxInt, 20, 0, 1, api.MaxInt, 20), api.MaxInt, "\x80\x00\x10", api.OK},
		{entries(-api.MaxInt, 20, 0, 1, api.MaxInt, 20), -api.MaxInt, "\x80\x00\x00", api.OK},
	} {
		isInt(t, words(c.l), c.n, c.row, 0, "", c.want)
	}
}

// TestManyWords: P10.1; as many as may be, and numbers between them, which have none.
func TestManyWords(t *testing.T) {
	for _, l := range [][]huff.Entry{many(256, 8), many(256, 20), many(255, 8)} {
		q, p := quill.New(), plain{}
		for _, x := range l {
			putsInt(t, q, &p, words(l), x.Symbol)
			putsInt(t, q, &p, words(l), x.Symbol+1)
		}
		holds(t, q, p)
	}
}

// TestWaysComeFirst: P10.1 and R2; what is wrong with a way, ahead of what is wrong with a number; nothing is put.
func TestWaysComeFirst(t *testing.T) {
	for _, c := range refused() {
		for _, n := range []int{math.MinInt, -api.MaxInt - 1, -api.MaxInt, 0, 1, 2, api.MaxInt, api.MaxInt + 1, math.MaxInt} {
			isInt(t, c.d, n, "", 0, "", c.want)
		}
	}
}

// TestNumbersOutOfRange: P10.1 and R2; by each way, ErrRange, ahead of a word that there isn't.
func TestNumbersOutOfRange(t *testing.T) {
	for _, d := range []desc.Ints{outside(1), fixed(0, 31), fixed(-api.MaxInt, 31), fixed(api.MaxInt, 31), words(entries(0, 1, 1, 1)), words(entries(0, 0))} {
		for _, n := range []int{math.MinInt, -1 << 32, -1 << 31, 1 << 31, 1 << 32, 1<<32 + 1, math.MaxInt} {
			isInt(t, d, n, "", 0, "", api.ErrRange)
		}
	}
}

// TestWhatDoesNotBelong: P10.1; what doesn't belong to a way's kind doesn't matter.
func TestWhatDoesNotBelong(t *testing.T) {
	odd := desc.Ints{Block: -1, Entries: entries(5, 99), Least: math.MinInt, Bits: -1}
	d := odd
	d.Kind, d.Block = desc.Outside, 9
	isInt(t, d, 3, "", 9, "\x03", api.OK)
	d = odd
	d.Kind, d.Entries = desc.Words, entries(3, 1, 4, 1)
	isInt(t, d, 4, "\x80", 0, "", api.OK)
	d = odd
	d.Kind, d.Least, d.Bits = desc.Fixed, 3, 1
	isInt(t, d, 4, "\x80", 0, "", api.OK)
}

// TestOneRow: P10.1; words and fixed numbers stand in one row, one just behind the other; Row only looks.
func TestOneRow(t *testing.T) {
	q := quill.New()
	l := words(entries(-4, 1, 2, 2, 9, 2))
	for _, c := range []struct {
		d   desc.Ints
		n   int
		row string
	}{
		{fixed(10, 2), 13, "\xc0"},                    // 11
		{l, 2, "\xe0"},                                // 1110
		{fixed(0, 5), 21, "\xea\x80"},                 // 11101010 1
		{outside(3), 300, "\xea\x80"},                 //
		{l, -4, "\xea\x80"},                           // 11101010 10
		{words(entries(8, 0)), 8, "\xea\x80"},         //
		{l, 9, "\xea\xb0"},                            // 11101010 1011
		{fixed(6, 0), 6, "\xea\xb0"},                  //
		{fixed(0, 31), 1, "\xea\xb0\x00\x00\x00\x20"}, // and 30 noughts and a one
		{outside(3), -1, "\xea\xb0\x00\x00\x00\x20"},
		{fixed(0, 5), 31, "\xea\xb0\x00\x00\x00\x3f"},
		{fixed(0, 1), 1, "\xea\xb0\x00\x00\x00\x3f\x80"},
	} {
		if e := q.Int(c.d, c.n); e != api.OK || string(q.Row()) != c.row || string(q.Row()) != c.row {
			t.Errorf("%d by %v: a row of %x, not %x (error %d)", c.n, c.d, q.Row(), c.row, int(e))
		}
	}
	if string(q.Block(3)) != "\x81\x2c\xff\xff\xff\xff\x0f" || !slices.Equal(q.Blocks(), []int{3}) {
		t.Errorf("blocks %v, %x", q.Blocks(), q.Block(3))
	}
}

// TestLikeEntries: P10.1 and R8; entries that differ by little, in turn: each has words of its own, or its error, whichever came ahead.
func TestLikeEntries(t *testing.T) {
	lists := [][]huff.Entry{
		entries(1, 1, 2, 2, 3, 2), entries(1, 2, 2, 1, 3, 2), entries(1, 2, 2, 2, 3, 1), entries(1, 1, 2, 2, 3, 3), entries(1, 1, 2, 2), entries(1, 1, 22, 2), entries(11, 1, 22, 2),
		entries(2, 2, 1, 1, 3, 2), entries(1, 1, 2, 2, 3, 22), entries(1, 1, 2, 1, 3, 2), entries(1, 1, 2, 2, 2, 2), entries(1, 0, 2, 2, 3, 2), entries(1, 1, 2, 2, 3, 2, 4, 2), nil,
		entries(1, 0), entries(2, 0), entries(1, 1), entries(1, 20), entries(-1, 1, 2, 2, 3, 2),
	}
	q, p := quill.New(), plain{}
	for i := range lists {
		for _, l := range [][]huff.Entry{lists[i], lists[(i*5)%len(lists)], lists[(i*7+3)%len(lists)], lists[0]} {
			for _, n := range []int{1, 2, 3, 22} {
				putsInt(t, q, &p, words(l), n)
			}
		}
	}
	holds(t, q, p)
}

// TestTakenBack: P10.1; what was put is there for those who take bits, words and numbers, in the same order.
func TestTakenBack(t *testing.T) {
	l := entries(-api.MaxInt, 9, -3, 2, 0, 3, 1, 2, 700, 3, api.MaxInt, 9)
	code, _ := huff.New(l)
	d := dice(101)
	q := quill.New()
	var kinds, numbers []int
	for range 3000 {
		kind, n := d.below(3), 0
		e := api.OK
		switch kind {
		case 0:
			n = d.below(1<<32-1) - api.MaxInt
			e = q.Int(outside(7), n)
		case 1:
			n = l[d.below(len(l))].Symbol
			e = q.Int(words(l), n)
		case 2:
			n = d.below(1<<13) - 99
			e = q.Int(fixed(-99, 13), n)
		}
		if e != api.OK {
			t.Fatal(int(e))
		}
		kinds, numbers = append(kinds, kind), append(numbers, n)
	}
	row, block := bits.Read(q.Row()), itf.Read(q.Block(7))
	for i, kind := range kinds {
		n := 0
		switch kind {
		case 0:
			n = block.Signed()
		case 1:
			n = code.Take(row)
		case 2:
			n = int(row.Take(13)) - 99
		}
		if n != numbers[i] {
			t.Fatalf("the %d-th: %d, not %d", i, n, numbers[i])
		}
	}
	if e, f := row.End(), block.End(); e != api.OK || f != api.OK {
		t.Errorf("something is left: %d, %d", int(e), int(f))
	}
}
