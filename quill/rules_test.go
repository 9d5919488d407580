package quill_test

import (
	"bytes"
	"math"
	"slices"
	"testing"

	"scriptorium/api"
	"scriptorium/desc"
	"scriptorium/huff"
	"scriptorium/quill"
)

// TestNil: R7, and P10.1's ErrNil, ahead of whatever else is wrong.
func TestNil(t *testing.T) {
	var q *quill.Quill
	for _, d := range []desc.Ints{outside(1), fixed(0, 3), words(entries(1, 0)), outside(0), words(nil), {}} {
		for _, n := range []int{1, 99, math.MinInt, math.MaxInt} {
			if e := q.Int(d, n); e != api.ErrNil {
				t.Errorf("%d by %v: error %d", n, d, int(e))
			}
		}
		for _, a := range []desc.Arrays{counted(1, d), counted(0, d), {}, stopped(0, 'a'), stopped(1, 'a'), stopped(1, 'b')} {
			for _, b := range [][]byte{nil, []byte("a")} {
				if e := q.Array(a, b); e != api.ErrNil {
					t.Errorf("%x by %v: error %d", b, a, int(e))
				}
			}
		}
	}
	if len(q.Row()) != 0 || len(q.Blocks()) != 0 || len(q.Block(0)) != 0 || len(q.Block(1)) != 0 {
		t.Error("a nil quill has something")
	}
}

// TestQuillOfZero: P1; one that New didn't make is as one that it made.
func TestQuillOfZero(t *testing.T) {
	holds(t, &quill.Quill{}, plain{})
	for _, put := range []func(q *quill.Quill, p *plain){
		func(q *quill.Quill, p *plain) { putsInt(t, q, p, outside(3), 5) },
		func(q *quill.Quill, p *plain) { putsInt(t, q, p, words(entries(5, 1)), 5) },
		func(q *quill.Quill, p *plain) { putsInt(t, q, p, fixed(5, 1), 6) },
		func(q *quill.Quill, p *plain) { putsArray(t, q, p, stopped(3, 0), []byte("ab")) },
		func(q *quill.Quill, p *plain) { putsArray(t, q, p, counted(3, words(entries(2, 1))), []byte("ab")) },
		func(q *quill.Quill, p *plain) { putsArray(t, q, p, counted(3, fixed(0, 9)), nil) },
	} {
		q, p := &quill.Quill{}, plain{}
		put(q, &p)
		holds(t, q, p)
	}
}

// TestErrorsChangeNothing: R4; what was put stays as it is, and more can be put as if nothing had been wrong.
func TestErrorsChangeNothing(t *testing.T) {
	q, p := quill.New(), plain{}
	l := words(entries(1, 1, 2, 2, 9, 2))
	for range 9 {
		putsInt(t, q, &p, outside(1), 300)
		putsInt(t, q, &p, l, 9)
		putsInt(t, q, &p, fixed(3, 2), 5)
		putsArray(t, q, &p, counted(2, l), []byte("ab"))
		for _, c := range refused() {
			putsInt(t, q, &p, c.d, 1)
			putsArray(t, q, &p, counted(4, c.d), []byte("a"))
		}
		putsInt(t, q, &p, outside(5), api.MaxInt+1)
		putsInt(t, q, &p, l, 3)
		putsInt(t, q, &p, fixed(3, 2), 7)
		putsArray(t, q, &p, stopped(6, 'a'), []byte("ba"))
		putsArray(t, q, &p, counted(7, l), []byte("abc"))
		putsArray(t, q, &p, counted(8, fixed(3, 2)), nil)
		putsArray(t, q, &p, counted(1, fixed(3, 2)), []byte("abcdefg"))
		putsArray(t, q, &p, counted(0, outside(1)), []byte("abc"))
		holds(t, q, p)
	}
	if !slices.Equal(q.Blocks(), []int{1, 2}) {
		t.Errorf("blocks %v", q.Blocks())
	}
}

// TestNothingHandedInIsChanged: R6, spare room included.
func TestNothingHandedInIsChanged(t *testing.T) {
	for _, l := range [][]huff.Entry{entries(2, 3, 5, 1, 6, 2), entries(5, 1, 1, 1), entries(2, 21), many(256, 8), many(257, 8)} {
		all := append(slices.Clone(l), entries(77, 7, 78, 8)...)
		before := slices.Clone(all)
		b := []byte("abcdef")
		q := quill.New()
		for range 2 {
			q.Int(words(all[:len(l)]), 5)
			q.Array(counted(3, words(all[:len(l)])), b[:2])
			q.Array(stopped(4, 'z'), b[:2])
			q.Array(stopped(4, 'a'), b[:2])
			q.Array(counted(4, outside(4)), b[:0])
		}
		if !slices.Equal(all, before) || string(b) != "abcdef" {
			t.Errorf("%v was changed to %v, or bytes to %q", before, all, b)
		}
	}
}

// TestNothingHandedInIsKept: R6; what becomes of it doesn't show.
func TestNothingHandedInIsKept(t *testing.T) {
	q, p := quill.New(), plain{}
	l := entries(1, 1, 2, 2, 3, 2)
	b := []byte("ab")
	put := func() {
		t.Helper()
		for _, n := range []int{1, 2, 3, 4} {
			putsInt(t, q, &p, words(l), n)
		}
		putsArray(t, q, &p, counted(5, words(l)), b)
		putsArray(t, q, &p, stopped(6, 'x'), b)
		putsArray(t, q, &p, counted(7, outside(8)), b)
		holds(t, q, p)
	}
	put()
	for _, change := range []func(){
		func() { l[0].Size, l[2].Size = 2, 1 },
		func() { b[0], b[1] = 'x', 'y' },
		func() { l[2].Symbol = 4 },
		func() { l[1].Symbol = 1 },
		func() { l[1].Symbol, l[1].Size = 2, 99 },
		func() { copy(l, entries(1, 1, 2, 2, 3, 2)); clear(b) },
	} {
		change()
		holds(t, q, p)
		put()
	}
}

// TestAnswersAreNewMemory: R6; what becomes of an answer doesn't show, and what is put later doesn't show in it.
func TestAnswersAreNewMemory(t *testing.T) {
	q, p := quill.New(), plain{}
	put := func() {
		for i := range 9 {
			putsInt(t, q, &p, fixed(0, 7), 99)
			putsInt(t, q, &p, outside(2+i), i)
			putsArray(t, q, &p, stopped(1, 0), []byte("abc"))
		}
	}
	put()
	for range 5 {
		row, blocks, block := q.Row(), q.Blocks(), q.Block(1)
		rowAsItWas, blockAsItWas, blocksAsTheyWere := bytes.Clone(row), bytes.Clone(block), slices.Clone(blocks)
		put()
		putsInt(t, q, &p, outside(100), 1)
		if !bytes.Equal(row, rowAsItWas) || !bytes.Equal(block, blockAsItWas) || !slices.Equal(blocks, blocksAsTheyWere) {
			t.Error("an answer changes")
		}
		for _, b := range [][]byte{row, block} {
			for i := range b[:cap(b)] {
				b[:cap(b)][i] = 0x55
			}
		}
		for i := range blocks[:cap(blocks)] {
			blocks[:cap(blocks)][i] = 77
		}
		holds(t, q, p)
		put()
		holds(t, q, p)
	}
}

// TestQuillsStandAlone: R8; one doesn't show in another.
func TestQuillsStandAlone(t *testing.T) {
	a, b, p, r := quill.New(), quill.New(), plain{}, plain{}
	for i := range 50 {
		putsInt(t, a, &p, words(entries(i, 1, 99, 1)), i)
		putsInt(t, b, &r, words(entries(i, 2, 99, 2)), 99)
		putsInt(t, b, &r, words(entries(i, 1, 99, 1)), 5)
		putsArray(t, a, &p, stopped(1+i%7, 9), []byte("a"))
		putsArray(t, b, &r, counted(1+i%5, fixed(0, 2)), []byte("bc"))
	}
	holds(t, a, p)
	holds(t, b, r)
}

// TestLookingChangesNothing: R8; asked twice, an answer is the same, and what is put next isn't moved by it.
func TestLookingChangesNothing(t *testing.T) {
	q, p := quill.New(), plain{}
	for i := range 40 {
		holds(t, q, p)
		holds(t, q, p)
		putsInt(t, q, &p, fixed(0, 3), i%8)
		putsInt(t, q, &p, outside(1+i*7%11), i)
	}
	holds(t, q, p)
}

// edge: a number at a border, or a small one.
func edge(d *dice) int {
	edges := []int{math.MinInt, -1 << 32, -1 << 31, 1 - 1<<31, -1, 0, 1, 2, 3, 4, 20, 21, 31, 32, 60000, 60001, 1<<31 - 1, 1 << 31, 1 << 32, math.MaxInt}
	if d.below(3) > 0 {
		return d.below(9)
	}
	return edges[d.below(len(edges))]
}

// anyInts: a way of numbers, which may be or not.
func anyInts(d *dice) desc.Ints {
	x := desc.Ints{Kind: []desc.Kind{desc.Outside, desc.Words, desc.Fixed, desc.Kind(d.below(256))}[d.below(4)], Block: edge(d), Least: edge(d), Bits: edge(d)}
	for range d.below(4) {
		x.Entries = append(x.Entries, huff.Entry{Symbol: edge(d), Size: edge(d)})
	}
	if d.below(4) > 0 {
		x.Entries = [][]huff.Entry{entries(1, 0), entries(0, 2, 1, 2, 2, 1), entries(0, 1, 2, 2, 3, 3), entries(-1, 3, 1, 1, 4, 3)}[d.below(4)]
	}
	return x
}

// TestAnyCalls: P1, and P10.1; rows of calls with arguments of any kind: no call comes down, and all answers are the plain one's.
func TestAnyCalls(t *testing.T) {
	d := dice(104)
	right := 0
	for range 3000 {
		q, p := quill.New(), plain{}
		for range d.below(40) {
			want := api.OK
			way := anyInts(&d)
			if n := edge(&d); d.below(2) == 0 {
				want = p.int(way, n)
				if e := q.Int(way, n); e != want {
					t.Fatalf("%d by %v: error %d, not %d", n, way, int(e), int(want))
				}
			} else {
				of := desc.Arrays{Ints: way, Kind: []desc.Kind{desc.Count, desc.Stopped, desc.Kind(d.below(256))}[min(d.below(7)/3, 2)], Block: edge(&d), Stop: byte(d.below(4))}
				b := []byte("\x01\x02\x03\x03\x02\x01")[:d.below(7)]
				want = p.array(of, b)
				if e := q.Array(of, b); e != want {
					t.Fatalf("%x by %v: error %d, not %d", b, of, int(e), int(want))
				}
			}
			if want == api.OK {
				right++
			}
			q.Block(edge(&d))
		}
		holds(t, q, p)
	}
	if right < 5000 {
		t.Errorf("only %d were put", right)
	}
}
