package lens_test

import (
	"bytes"
	"slices"
	"testing"

	"scriptorium/api"
	"scriptorium/desc"
	"scriptorium/huff"
	"scriptorium/lens"
	"scriptorium/quill"
)

// taken: a lens of what a quill has.
func taken(q *quill.Quill) *lens.Lens {
	blocks := map[int][]byte{}
	for _, n := range q.Blocks() {
		blocks[n] = q.Block(n)
	}
	return lens.New(q.Row(), blocks)
}

// TestOneNumberBack: P11.2; each number that may be, by each way that has it, alone.
func TestOneNumberBack(t *testing.T) {
	numbers := []int{-api.MaxInt, 1 - api.MaxInt, -1 << 28, -1 << 14, -129, -128, -1, 0, 1, 127, 128, 1<<14 - 1, 1 << 14, 1<<21 - 1, 1 << 21, 1<<28 - 1, 1 << 28, api.MaxInt - 1, api.MaxInt}
	for _, n := range numbers {
		ways := []desc.Ints{outside(1), outside(60000), words(entries(n, 0)), words(entries(n, 1)), words(entries(n, 20)), fixed(n, 0), fixed(n, 31), fixed(max(n-5, -api.MaxInt), 3)}
		if n > -api.MaxInt {
			ways = append(ways, words(entries(-api.MaxInt, 1, n, 2)))
		}
		for _, d := range ways {
			q := quill.New()
			if e := q.Int(d, n); e != api.OK {
				t.Fatalf("%d by %v: error %d", n, d, int(e))
			}
			x := taken(q)
			if m := x.Int(d); m != n || x.End() != api.OK {
				t.Errorf("%d by %v: %d, at the end %d", n, d, m, int(x.End()))
			}
			y := taken(q)
			if m := y.Within(d, n, n); m != n || y.End() != api.OK {
				t.Errorf("%d by %v: %d, at the end %d", n, d, m, int(y.End()))
			}
		}
	}
}

// TestOneArrayBack: P11.2; bytes of all kinds and numbers, by each way, alone.
func TestOneArrayBack(t *testing.T) {
	for _, size := range []int{0, 1, 2, 7, 8, 127, 128, 255, 300, 20000, api.MaxBytes} {
		b := make([]byte, size)
		for i := range b {
			b[i] = byte(i*i + i>>3)
		}
		ways := []desc.Arrays{counted(5, outside(5)), counted(5, outside(6)), counted(5, words(entries(size, 0))), counted(5, words(entries(-1, 1, size, 3))), counted(5, fixed(size, 0)), counted(5, fixed(-9, 31))}
		for _, d := range ways {
			q := quill.New()
			if e := q.Array(d, b); e != api.OK {
				t.Fatalf("%d bytes by %v: error %d", size, d, int(e))
			}
			if x := taken(q); !bytes.Equal(x.Array(d), b) || x.End() != api.OK {
				t.Errorf("%d bytes by %v: error %d, at the end %d", size, d, int(x.Err()), int(x.End()))
			}
		}
		for stop := range 256 {
			d := stopped(5, byte(stop))
			q := quill.New()
			but := bytes.ReplaceAll(b[:min(size, 300)], []byte{byte(stop)}, nil)
			if e := q.Array(d, but); e != api.OK {
				t.Fatalf("%d bytes by %v: error %d", size, d, int(e))
			}
			if x := taken(q); !bytes.Equal(x.Array(d), but) || x.End() != api.OK {
				t.Errorf("%d bytes by %v: error %d, at the end %d", size, d, int(x.Err()), int(x.End()))
			}
		}
	}
}

// one is a number, or bytes, by a way.
type one struct {
	ints   desc.Ints
	n      int
	arrays desc.Arrays
	b      []byte
}

// series: ways of all kinds, some of them with blocks in common.
func series() ([]desc.Ints, []desc.Arrays) {
	var l []huff.Entry
	for i := range 16 {
		l = append(l, huff.Entry{Symbol: i, Size: 1 + min(i, 14)})
	}
	other := slices.Clone(l)
	slices.Reverse(other)
	for i := range other {
		other[i].Symbol = i
	}
	ints := []desc.Ints{outside(1), outside(2), outside(60000), words(l), words(other), words(many(256, 8)), fixed(-7, 6), fixed(0, 4), fixed(-5000, 31)}
	arrays := []desc.Arrays{stopped(3, 255), stopped(1, 255), stopped(2, 254)}
	for _, d := range []desc.Ints{outside(1), outside(4), words(l), words(other), fixed(0, 4), fixed(-3, 9)} {
		arrays = append(arrays, counted(1, d), counted(5, d))
	}
	return ints, arrays
}

// anyOf: a number, or bytes, that one of the ways has.
func anyOf(d *dice, ints []desc.Ints, arrays []desc.Arrays) one {
	if d.below(2) == 0 {
		way := ints[d.below(len(ints))]
		n := d.below(16)
		if len(way.Entries) == 256 {
			n = way.Entries[d.below(256)].Symbol
		}
		return one{ints: way, n: n}
	}
	b := make([]byte, d.below(16))
	for i := range b {
		b[i] = byte(d.below(254))
	}
	return one{arrays: arrays[d.below(len(arrays))], b: b}
}

// TestAllBack: P11.2; rows of numbers and bytes by many ways are taken in the order in which they were put; just behind the last nothing is left.
func TestAllBack(t *testing.T) {
	d := dice(111)
	ints, arrays := series()
	for round := range 300 {
		q := quill.New()
		var all []one
		for range 1 + d.below(1+10*round) {
			o := anyOf(&d, ints, arrays)
			e := api.OK
			if o.ints.Kind != 0 {
				e = q.Int(o.ints, o.n)
			} else {
				e = q.Array(o.arrays, o.b)
			}
			if e != api.OK {
				t.Fatalf("%v: error %d", o, int(e))
			}
			all = append(all, o)
		}
		x := taken(q)
		for i, o := range all {
			if o.ints.Kind != 0 {
				if n := x.Int(o.ints); n != o.n {
					t.Fatalf("%d of %d: %d, not %d", i, len(all), n, o.n)
				}
			} else if b := x.Array(o.arrays); !bytes.Equal(b, o.b) {
				t.Fatalf("%d of %d: %x, not %x", i, len(all), b, o.b)
			}
		}
		if x.Err() != api.OK || x.End() != api.OK {
			t.Fatalf("error %d, at the end %d", int(x.Err()), int(x.End()))
		}
	}
}

// TestLessIsShort: P11.2's other side; of what a quill has, a byte fewer, in the row or in a block, can't be taken as a whole.
func TestLessIsShort(t *testing.T) {
	q := quill.New()
	ways := []desc.Ints{fixed(0, 8), outside(1), words(entries(1, 4, 300, 4))}
	for range 6 {
		for _, d := range ways {
			if e := q.Int(d, 1); e != api.OK {
				t.Fatal(int(e))
			}
		}
	}
	for _, c := range []struct {
		row, block int
		want       api.Errno
	}{{0, 0, api.OK}, {1, 0, api.ErrShort}, {0, 1, api.ErrShort}, {9, 0, api.ErrShort}, {0, 6, api.ErrShort}} {
		row, block := q.Row(), q.Block(1)
		x := lens.New(row[:len(row)-c.row], map[int][]byte{1: block[:len(block)-c.block]})
		for range 6 {
			for _, d := range ways {
				x.Int(d)
			}
		}
		if x.Err() != c.want || x.End() != c.want {
			t.Errorf("%d and %d bytes fewer: error %d, at the end %d", c.row, c.block, int(x.Err()), int(x.End()))
		}
	}
}
