package lens_test

import (
	"bytes"
	"math"
	"slices"
	"strings"
	"testing"

	"scriptorium/api"
	"scriptorium/bits"
	"scriptorium/desc"
	"scriptorium/huff"
	"scriptorium/lens"
)

// TestNil: R7.
func TestNil(t *testing.T) {
	var x *lens.Lens
	x.Wrong(api.ErrSeq)
	x.Wrong(api.OK)
	for _, d := range []desc.Ints{outside(1), words(entries(5, 0)), fixed(5, 0), outside(0), words(nil), {}} {
		if x.Int(d) != 0 || x.Within(d, 5, 5) != 0 || x.Within(d, 6, 4) != 0 || len(x.Array(counted(1, d))) != 0 {
			t.Errorf("by %v: something", d)
		}
	}
	if len(x.Array(stopped(1, 0))) != 0 || len(x.Array(stopped(0, 0))) != 0 {
		t.Error("bytes")
	}
	if x.Err() != api.ErrNil || x.End() != api.ErrNil {
		t.Errorf("error %d, at the end %d", int(x.Err()), int(x.End()))
	}
}

// TestLensOfZero: P1; one that New didn't make has no blocks, and a row that isn't there, of which nothing can be taken.
func TestLensOfZero(t *testing.T) {
	if x := (&lens.Lens{}); x.Err() != api.OK || x.End() != api.ErrNil || x.Take(1) != 0 || !x.Ended() {
		t.Errorf("error %d, at the end %d", int(x.Err()), int(x.End()))
	}
	for _, c := range append(refused(), wrong{outside(1), api.ErrNone}, wrong{fixed(5, 0), api.ErrShort}, wrong{words(entries(5, 0)), api.ErrShort}) {
		x, y := &lens.Lens{}, &lens.Lens{}
		if x.Int(c.d) != 0 || len(y.Array(counted(1, c.d))) != 0 || x.Err() != c.want || y.Err() != c.want || x.End() != c.want {
			t.Errorf("by %v: error %d and %d, not %d", c.d, int(x.Err()), int(y.Err()), int(c.want))
		}
	}
	x := &lens.Lens{}
	x.Wrong(api.ErrSeq)
	isOver(t, "zero", x, api.ErrSeq)
	x = &lens.Lens{Reader: bits.Read([]byte("\xc0"))}
	if x.Int(fixed(0, 2)) != 3 || x.End() != api.OK {
		t.Errorf("of a row: at the end %d", int(x.End()))
	}
}

// TestNothingHandedInIsChanged: R6, spare room included.
func TestNothingHandedInIsChanged(t *testing.T) {
	core := []byte("\xa5\x5a\xff\xee")
	block := []byte("\x03ab\x00cdefg")
	blocks := map[int][]byte{1: block[:5], 2: block[1:4], 3: nil}
	x := lens.New(core[:2], blocks)
	for _, l := range [][]huff.Entry{entries(2, 3, 5, 1, 6, 2), entries(5, 1, 1, 1), entries(2, 21), many(256, 8), many(257, 8)} {
		all := append(slices.Clone(l), entries(77, 7, 78, 8)...)
		before := slices.Clone(all)
		y := lens.New(core[:2], blocks)
		y.Int(words(all[:len(l)]))
		y.Array(counted(1, words(all[:len(l)])))
		if !slices.Equal(all, before) {
			t.Errorf("%v was changed to %v", before, all)
		}
	}
	x.Int(fixed(0, 3))
	x.Int(outside(1))
	x.Array(stopped(1, 0))
	x.Array(counted(2, fixed(2, 0)))
	x.End()
	x.Array(counted(9, fixed(2, 0)))
	x.Wrong(api.ErrSeq)
	x.End()
	if string(core) != "\xa5\x5a\xff\xee" || string(block) != "\x03ab\x00cdefg" || len(blocks) != 3 || len(blocks[1]) != 5 || len(blocks[2]) != 3 || blocks[3] != nil {
		t.Errorf("%x, %q, %v", core, block, blocks)
	}
}

// TestNothingHandedInIsKept: R6; what becomes of it doesn't show.
func TestNothingHandedInIsKept(t *testing.T) {
	core, block := []byte("\xe9"), []byte("\x03ab\x00")
	blocks := map[int][]byte{1: block, 2: []byte("xy")}
	x := lens.New(core, blocks)
	clear(core)
	clear(block)
	clear(blocks[2])
	delete(blocks, 2)
	blocks[3] = []byte("\x01")
	l := entries(1, 1, 2, 2, 3, 2)
	if n := x.Int(words(l)); n != 3 {
		t.Errorf("%d", n)
	}
	// Other words by the same list: 10, 11 and 0.
	copy(l, entries(1, 2, 2, 2, 3, 1))
	if n := x.Int(words(l)); n != 1 {
		t.Errorf("%d by other words", n)
	}
	l[0].Symbol, l[1].Symbol = -7, -5
	if n := x.Int(words(l)); n != -7 {
		t.Errorf("%d by words of other numbers", n)
	}
	if n, b, c := x.Int(outside(1)), x.Array(stopped(1, 0)), x.Array(counted(2, fixed(2, 0))); n != 3 || string(b) != "ab" || string(c) != "xy" {
		t.Errorf("%d, %q, %q", n, b, c)
	}
	if x.Take(2) != 1 || x.End() != api.OK {
		t.Errorf("at the end %d", int(x.End()))
	}
	l[1].Symbol = -7
	if n := x.Int(words(l)); n != 0 || x.Err() != api.ErrOrder {
		t.Errorf("%d by words that may not be: error %d", n, int(x.Err()))
	}
}

// TestAnswersAreNewMemory: R6; what becomes of an answer, spare room included, doesn't show in what is taken next.
func TestAnswersAreNewMemory(t *testing.T) {
	x := lens.New(nil, map[int][]byte{1: []byte("ab\x00cd\x00\x02ef\x00gh"), 2: []byte("")})
	var all [][]byte
	for _, c := range []struct {
		d    desc.Arrays
		want string
	}{{stopped(1, 0), "ab"}, {stopped(1, 0), "cd"}, {counted(1, outside(1)), "ef"}, {stopped(1, 0), ""}, {counted(2, fixed(0, 0)), ""}, {counted(1, fixed(2, 0)), "gh"}} {
		b := x.Array(c.d)
		if string(b) != c.want {
			t.Errorf("by %v: %q, not %q", c.d, b, c.want)
		}
		for i := range b[:cap(b)] {
			b[:cap(b)][i] = '#'
		}
		all = append(all, b)
	}
	for _, b := range all {
		if strings.Trim(string(b), "#") != "" {
			t.Errorf("an answer became %q", b)
		}
	}
	if x.End() != api.OK {
		t.Errorf("at the end %d", int(x.End()))
	}
}

// TestLensesStandAlone: R8; one doesn't show in another, though both be of the same row and blocks.
func TestLensesStandAlone(t *testing.T) {
	core, blocks := []byte("\x12\x34"), map[int][]byte{1: []byte("\x01\x02\x03")}
	x, y := lens.New(core, blocks), lens.New(core, blocks)
	for i := range 3 {
		if n, m := x.Int(outside(1)), x.Int(fixed(0, 4)); n != i+1 || m != i+1 {
			t.Errorf("%d and %d", n, m)
		}
	}
	x.Wrong(api.ErrSeq)
	for i := range 3 {
		if n, m := y.Int(outside(1)), y.Int(fixed(0, 4)); n != i+1 || m != i+1 {
			t.Errorf("%d and %d", n, m)
		}
	}
	if y.Err() != api.OK || y.Int(fixed(0, 4)) != 4 || y.End() != api.OK {
		t.Errorf("error %d, at the end %d", int(y.Err()), int(y.End()))
	}
}

// edge: a number at a border, or a small one.
func edge(d *dice) int {
	edges := []int{math.MinInt, -1 << 32, -1 << 31, 1 - 1<<31, -1, 0, 1, 2, 3, 4, 20, 21, 31, 32, 60000, 60001, 1<<31 - 1, 1 << 31, 1 << 32, math.MaxInt}
	if d.below(3) > 0 {
		return d.below(9)
	}
	return edges[d.below(len(edges))]
}

// anyInts: a way of numbers, which may be or not; of three, two that may be.
func anyInts(d *dice) desc.Ints {
	if d.below(3) > 0 {
		l := [][]huff.Entry{entries(1, 0), entries(0, 2, 1, 2, 2, 1), entries(0, 1, 2, 2, 3, 3), entries(-1, 3, 1, 1, 4, 3)}[d.below(4)]
		return []desc.Ints{outside(1 + d.below(4)), words(l), fixed(d.below(5)-1, d.below(5))}[d.below(3)]
	}
	x := desc.Ints{Kind: []desc.Kind{desc.Outside, desc.Words, desc.Fixed, desc.Kind(d.below(256))}[d.below(4)], Block: edge(d), Least: edge(d), Bits: edge(d)}
	for range d.below(4) {
		x.Entries = append(x.Entries, huff.Entry{Symbol: edge(d), Size: edge(d)})
	}
	return x
}

// anyBytes: some, small ones more often.
func anyBytes(d *dice, most int) string {
	b := make([]byte, d.below(most))
	for i := range b {
		b[i] = byte(d.below(1 + 255*(d.below(5)/4) + d.below(4)))
	}
	return string(b)
}

// TestAnyCalls: P1, and P11.1; rows of calls with arguments of any kind: no call comes down, and all answers are the plain one's.
func TestAnyCalls(t *testing.T) {
	d := dice(112)
	right, errors := 0, map[api.Errno]int{}
	for range 20000 {
		blocks := map[int]string{}
		for n := range 5 {
			if d.below(5) > 0 {
				blocks[n] = anyBytes(&d, 40)
			}
		}
		x, p := both(anyBytes(&d, 20), blocks)
		for range d.below(20) {
			switch way := anyInts(&d); d.below(9) {
			case 0, 1, 2:
				takesInt(t, x, p, way)
			case 3:
				takesWithin(t, x, p, way, edge(&d)-1, edge(&d))
			case 4:
				if e := api.Errno(d.below(400) - 380); e > api.OK {
					p.wrong(e)
					x.Wrong(e)
				}
			default:
				kind := []desc.Kind{desc.Count, desc.Stopped, desc.Kind(d.below(256))}[min(d.below(17)/8, 2)]
				takesArray(t, x, p, desc.Arrays{Ints: way, Kind: kind, Block: 1 + d.below(4), Stop: byte(d.below(4))})
			}
			if p.err == api.OK {
				right++
			}
		}
		errors[p.err]++
	}
	if right < 20000 || len(errors) < 10 {
		t.Errorf("%d were taken, errors %v", right, errors)
	}
}

// TestAnyBytes: P1, and P11.1; whatever the bytes are, a few calls that may be answer what the plain one does.
func TestAnyBytes(t *testing.T) {
	d := dice(113)
	ints, arrays := series()
	for range 3000 {
		core, block := make([]byte, d.below(30)), make([]byte, d.below(60))
		for _, b := range [][]byte{core, block} {
			for i := range b {
				b[i] = byte(d.below(256))
			}
		}
		x, p := both(string(core), map[int]string{1: string(block), 2: string(bytes.Repeat([]byte{2}, 9)), 3: "a\xff", 5: string(core)})
		for p.err == api.OK {
			if d.below(2) == 0 {
				takesInt(t, x, p, ints[d.below(len(ints))])
			} else {
				takesArray(t, x, p, arrays[d.below(len(arrays))])
			}
		}
	}
}
