package desc_test

import (
	"math"
	"testing"

	"scriptorium/api"
	"scriptorium/desc"
)

// TestConstants: the chapter's numbers.
func TestConstants(t *testing.T) {
	if desc.MaxBlock != 60000 || desc.Outside != 1 || desc.Words != 3 || desc.Count != 4 || desc.Stopped != 5 || desc.Fixed != 6 {
		t.Error("a constant isn't the chapter's")
	}
}

// TestCheckOfInts: P9.1, each border on both sides.
func TestCheckOfInts(t *testing.T) {
	for _, d := range ints() {
		if e := d.Check(); e != api.OK {
			t.Errorf("%v: error %d", d, int(e))
		}
	}
	for _, c := range refused() {
		if e := c.d.Check(); e != c.want {
			t.Errorf("%v: error %d, not %d", c.d, int(e), int(c.want))
		}
	}
}

// odd: a way with what is wrong in all that doesn't belong to its kind.
func odd(d desc.Ints) desc.Ints {
	if d.Kind != desc.Outside {
		d.Block = math.MinInt
	}
	if d.Kind != desc.Words {
		d.Entries = entries(5, 99, 5, -1)
	}
	if d.Kind != desc.Fixed {
		d.Least, d.Bits = math.MaxInt, -1
	}
	return d
}

// oddArrays: likewise.
func oddArrays(d desc.Arrays) desc.Arrays {
	if d.Kind == desc.Stopped {
		d.Ints = desc.Ints{Kind: 99, Block: -1, Entries: entries(5, 99), Least: math.MinInt, Bits: 99}
		return d
	}
	d.Ints = odd(d.Ints)
	d.Stop = 77
	return d
}

// TestWhatDoesNotBelongDoesNotMatter: P9.1; Check looks at what belongs to the kind alone.
func TestWhatDoesNotBelongDoesNotMatter(t *testing.T) {
	for _, d := range ints() {
		if e := odd(d).Check(); e != api.OK {
			t.Errorf("%v: error %d", odd(d), int(e))
		}
	}
	for _, d := range arrays() {
		if e := oddArrays(d).Check(); e != api.OK {
			t.Errorf("%v: error %d", oddArrays(d), int(e))
		}
	}
	for _, c := range refused() {
		if e := odd(c.d).Check(); e != c.want {
			t.Errorf("%v: error %d, not %d", odd(c.d), int(e), int(c.want))
		}
	}
}

// TestCheckOfArrays: P9.1; of Count the numbers' errors, of Stopped none.
func TestCheckOfArrays(t *testing.T) {
	for _, d := range arrays() {
		if e := d.Check(); e != api.OK {
			t.Errorf("%v: error %d", d, int(e))
		}
	}
	for _, c := range refused() {
		if e := counted(9, c.d).Check(); e != c.want {
			t.Errorf("%v: error %d, not %d", c.d, int(e), int(c.want))
		}
		d := stopped(9, 9)
		d.Ints = c.d
		if e := d.Check(); e != api.OK {
			t.Errorf("stopped, %v: error %d", c.d, int(e))
		}
	}
	for kind := range 256 {
		d := counted(9, outside(9))
		d.Kind = desc.Kind(kind)
		want := api.ErrKind
		if kind == 4 || kind == 5 {
			want = api.OK
		}
		if e := d.Check(); e != want {
			t.Errorf("kind %d: error %d, not %d", kind, int(e), int(want))
		}
	}
}

// TestBlockComesFirst: P9.1 and R2; of every kind, whatever else is wrong.
func TestBlockComesFirst(t *testing.T) {
	for _, block := range []int{0, -1, 60001, 65537, 1<<32 + 1, math.MinInt, math.MaxInt} {
		for _, kind := range []desc.Kind{0, 1, 2, 3, desc.Count, desc.Stopped, 6, 255} {
			for _, of := range []desc.Ints{outside(1), words(nil), words(entries(1, 1, 1, 1)), {Kind: 9}, fixed(0, 99)} {
				d := desc.Arrays{Kind: kind, Block: block, Ints: of}
				if e := d.Check(); e != api.ErrRange {
					t.Errorf("%v: error %d", d, int(e))
				}
			}
		}
	}
}

// TestTheTwoKindsAndBlocks: P9.1; the bytes' own are others than their number's.
func TestTheTwoKindsAndBlocks(t *testing.T) {
	for _, c := range []struct {
		d    desc.Arrays
		want api.Errno
	}{
		{counted(60000, outside(1)), api.OK},
		{counted(1, outside(0)), api.ErrRange},
		{counted(0, outside(1)), api.ErrRange},
		{counted(1, desc.Ints{Kind: desc.Count, Block: 1}), api.ErrKind},
		{counted(1, desc.Ints{Kind: desc.Stopped, Block: 1}), api.ErrKind},
		{desc.Arrays{Kind: desc.Outside, Block: 1, Ints: outside(1)}, api.ErrKind},
		{desc.Arrays{Kind: desc.Words, Block: 1, Ints: words(entries(1, 0))}, api.ErrKind},
		{desc.Arrays{Kind: desc.Fixed, Block: 1, Ints: fixed(1, 1)}, api.ErrKind},
		{desc.Arrays{Block: 1, Ints: outside(1)}, api.ErrKind},
		{desc.Arrays{}, api.ErrRange},
		{desc.Arrays{Ints: outside(1)}, api.ErrRange},
	} {
		if e := c.d.Check(); e != c.want {
			t.Errorf("%v: error %d, not %d", c.d, int(e), int(c.want))
		}
	}
}
