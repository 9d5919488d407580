package huff_test

import (
	"maps"
	"slices"
	"testing"

	"scriptorium/api"
	"scriptorium/bits"
	"scriptorium/huff"
)

// TestNilDoesNothing: R7, and P5.2 of a nil Code's Take; a Code without words, which New didn't make, is the same.
func TestNilDoesNothing(t *testing.T) {
	for _, c := range []*huff.Code{nil, {}} {
		for _, n := range []int{0, 1, -1} {
			if size, ok := c.Size(n); size != 0 || ok {
				t.Error("a size of no code")
			}
			w := &bits.Writer{}
			if c.Put(w, n) || c.Put(nil, n) || w.Len() != 0 {
				t.Error("a word of no code")
			}
		}
		for _, b := range []string{"", "\x00", "\xff\xff\xff\xff"} {
			r := bits.Read([]byte(b))
			if c.Take(r) != 0 || !r.Ended() {
				t.Error("no code doesn't end the reader")
			}
		}
		if c.Take(nil) != 0 {
			t.Error("no code of no reader")
		}
	}
	for _, l := range [][]huff.Entry{entries(0), entries(1, 1)} {
		c := code(t, l)
		if c.Put(nil, -7) || c.Put(nil, 0) || c.Take(nil) != 0 {
			t.Error("no writer, no reader")
		}
		if size, ok := c.Size(-7); !ok || size != l[0].Size {
			t.Error("the code is spoilt")
		}
	}
}

// roomy: entries with spare room behind them, and all of that memory.
func roomy(l []huff.Entry) (_, all []huff.Entry) {
	all = append(slices.Clone(l), huff.Entry{Symbol: 77, Size: 7}, huff.Entry{Symbol: 78, Size: 8})
	return all[:len(l)], all
}

// TestNewKeepsNothingHandedIn: R6, spare room included.
func TestNewKeepsNothingHandedIn(t *testing.T) {
	first := entries(4, 4, 2, 3)
	l, all := roomy(first)
	before := slices.Clone(all)
	c := code(t, l)
	huff.Key(l)
	for _, wrong := range [][]huff.Entry{entries(2, 1, 1), entries(3, 0), entries(3, 21)} {
		l, all := roomy(wrong)
		before := slices.Clone(all)
		huff.New(l)
		huff.Key(l)
		if !slices.Equal(all, before) {
			t.Errorf("%v was changed to %v", before, all)
		}
	}
	if !slices.Equal(all, before) {
		t.Errorf("%v was changed to %v", before, all)
	}
	for i := range all {
		all[i] = huff.Entry{Symbol: -i, Size: 1}
	}
	has(t, c, words(first))
}

// TestSizesKeepsNothingHandedIn: R6; and an answer is new memory.
func TestSizesKeepsNothingHandedIn(t *testing.T) {
	for _, counts := range [][]int{{4}, {1, 5, 1}, {0, 2}, {1, 2, 3, 4, 5, 6}, slices.Repeat([]int{1}, 257)} {
		in := mapOf(counts)
		before := maps.Clone(in)
		a, e := huff.Sizes(in)
		b, f := huff.Sizes(in)
		if e != f || !slices.Equal(a, b) || !maps.Equal(in, before) {
			t.Errorf("%v became %v, or its answers %v and %v differ", before, in, a, b)
		}
		want := slices.Clone(b)
		for i := range a[:cap(a)] {
			a[:cap(a)][i] = huff.Entry{Symbol: 99, Size: 99}
		}
		clear(in)
		if !slices.Equal(b, want) {
			t.Errorf("two answers share memory: %v", b)
		}
	}
}

// TestSizesDontHangOnTheMap: R8; the same counts, told in another order, in a map that held others.
func TestSizesDontHangOnTheMap(t *testing.T) {
	for n := 1; n <= 60; n += 7 {
		want, e := huff.Sizes(mapOf(slices.Repeat([]int{3}, n)))
		if e != api.OK {
			t.Fatal(int(e))
		}
		other := map[int]int{}
		for i := range 1000 {
			other[i] = i
		}
		clear(other)
		for i := n - 1; i >= 0; i-- {
			other[3*i-n] = 3
		}
		for range 20 {
			if l, e := huff.Sizes(other); e != api.OK || !slices.Equal(l, want) {
				t.Fatalf("%v, not %v", l, want)
			}
		}
	}
}

// TestCodesStandAlone: R8; one code, and one reader, doesn't show in another.
func TestCodesStandAlone(t *testing.T) {
	l, m := entries(1, 2, 2), entries(2, 2, 1)
	a, b, again := code(t, l), code(t, m), code(t, l)
	w := &bits.Writer{}
	a.Put(w, -7)
	b.Put(w, -7)
	again.Put(w, 3)
	in := w.Bytes()
	x, y := bits.Read(in), bits.Read(in)
	if a.Take(x) != -7 || b.Take(x) != -7 || b.Take(y) != 3 || again.Take(x) != 3 || again.Take(y) != -2 {
		t.Error("codes, or readers, hang on each other")
	}
	x.Fail()
	if a.Take(x) != 0 || a.Take(y) != 3 || y.Ended() {
		t.Error("a reader hangs on another")
	}
	has(t, a, words(l))
	has(t, b, words(m))
	has(t, again, words(l))
}
