package codes_test

import (
	"math"
	"slices"
	"testing"

	"scriptorium/api"
	"scriptorium/bits"
	"scriptorium/codes"
	"scriptorium/desc"
	"scriptorium/huff"
)

// entries: of a number and its size, of the next number and its size, and so on.
func entries(all ...int) []huff.Entry {
	var l []huff.Entry
	for i := 0; i < len(all); i += 2 {
		l = append(l, huff.Entry{Symbol: all[i], Size: all[i+1]})
	}
	return l
}

func words(l []huff.Entry) desc.Ints {
	return desc.Ints{Kind: desc.Words, Entries: l}
}

// ways: of all kinds, some that may be, and some that may not.
func ways() []desc.Ints {
	l := []desc.Ints{{}, {Kind: desc.Count}, {Kind: 255, Block: 1, Entries: entries(1, 0)}}
	for _, n := range []int{0, 1, 60000, 60001, math.MinInt} {
		l = append(l, desc.Ints{Kind: desc.Outside, Block: n}, desc.Ints{Kind: desc.Fixed, Least: n, Bits: n})
	}
	for _, x := range [][]huff.Entry{nil, entries(1, 0), entries(1, 1), entries(1, 1, 2, 1), entries(1, 2, 2, 1), entries(2, 1, 1, 1), entries(1, 1, 1, 1), entries(1, 0, 2, 1), entries(1, 1, 2, 1, 3, 1), entries(1, 21), make([]huff.Entry, 257)} {
		l = append(l, words(x))
	}
	return l
}

// holds: a code's words, of the numbers from 0 to 5, are those of another one.
func holds(t *testing.T, d desc.Ints, got, want *huff.Code) {
	t.Helper()
	for n := range 6 {
		a, b := &bits.Writer{}, &bits.Writer{}
		if got.Put(a, n) != want.Put(b, n) || a.Len() != b.Len() || string(a.Bytes()) != string(b.Bytes()) {
			t.Errorf("%v: %d is %x, not %x", d, n, a.Bytes(), b.Bytes())
		}
	}
}

// TestInts: Check's error; of Words the code that huff makes; all asked twice.
func TestInts(t *testing.T) {
	k := &codes.Kept{}
	for range 2 {
		for _, d := range ways() {
			code, e := k.Ints(d)
			if e != d.Check() {
				t.Errorf("%v: error %d, not %d", d, int(e), int(d.Check()))
			}
			if (code != nil) != (d.Kind == desc.Words && e == api.OK) {
				t.Errorf("%v: is there a code? %v", d, code != nil)
			}
			want, _ := huff.New(d.Entries)
			if code != nil {
				holds(t, d, code, want)
			}
		}
	}
}

// TestArrays: Check's error, be the code of their number kept or not.
func TestArrays(t *testing.T) {
	k := &codes.Kept{}
	for range 2 {
		for _, d := range ways() {
			for _, kind := range []desc.Kind{0, desc.Outside, desc.Words, desc.Count, desc.Stopped, desc.Fixed, 255} {
				for _, block := range []int{0, 1, 60000, 60001} {
					a := desc.Arrays{Ints: d, Kind: kind, Block: block}
					if e := k.Arrays(a); e != a.Check() {
						t.Errorf("%v: error %d, not %d", a, int(e), int(a.Check()))
					}
				}
			}
		}
		for _, d := range ways() {
			k.Ints(d)
		}
	}
}

// TestKept: a code is made once, though others be asked for between.
func TestKept(t *testing.T) {
	k := &codes.Kept{}
	first, _ := k.Ints(words(entries(1, 1, 2, 1)))
	other, _ := k.Ints(words(entries(1, 1, 3, 1)))
	again, _ := k.Ints(words(entries(1, 1, 2, 1)))
	if first == nil || first != again || first == other {
		t.Error("another code")
	}
}

// TestArraysOfKept: entries that are known to be right aren't looked through again, so that there is less to do than at first.
func TestArraysOfKept(t *testing.T) {
	var l []huff.Entry
	for n := range 256 {
		l = append(l, huff.Entry{Symbol: n, Size: 8})
	}
	d := desc.Arrays{Ints: words(l), Kind: desc.Count, Block: 1}
	k := &codes.Kept{}
	first := testing.AllocsPerRun(9, func() { k.Arrays(d) })
	k.Ints(d.Ints)
	if then := testing.AllocsPerRun(9, func() { k.Arrays(d) }); then > first/2 {
		t.Errorf("%v allocations, at first %v", then, first)
	}
}

// TestNothingHandedIn: entries are neither changed nor kept.
func TestNothingHandedIn(t *testing.T) {
	k := &codes.Kept{}
	l := append(entries(1, 2, 2, 1), entries(7, 7)...)
	before := slices.Clone(l)
	for range 2 {
		k.Ints(words(l[:2]))
		k.Arrays(desc.Arrays{Ints: words(l[:2]), Kind: desc.Count, Block: 1})
	}
	if !slices.Equal(l, before) {
		t.Errorf("%v was changed to %v", before, l)
	}
	for _, x := range [][]huff.Entry{entries(1, 1, 2, 2), entries(1, 1, 1, 2), entries(3, 1, 4, 1), entries(1, 2, 2, 1)} {
		copy(l, x)
		code, e := k.Ints(words(l[:2]))
		want, wanted := huff.New(x)
		if e != wanted {
			t.Errorf("%v: error %d, not %d", x, int(e), int(wanted))
		}
		holds(t, words(x), code, want)
	}
}
