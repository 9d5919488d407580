package contig_test

import (
	"math"
	"testing"

	"scriptorium/contig"
)

// TestFind: P12.1; the first such one's number, of contigs that may not be, too.
func TestFind(t *testing.T) {
	r := of("b", "A", "a", "C", "", "G", "b", "T", "a b", "N")
	for i, name := range []string{"b", "a", "", "", "a b"} {
		if i == 3 {
			name, i = "b", 0
		}
		if n, ok := r.Find(name); n != i || !ok {
			t.Errorf("%q is %d, %v", name, n, ok)
		}
	}
	for _, name := range []string{"c", "B", "ab", "a ", " a", "bb", "\x00", "A"} {
		if n, ok := r.Find(name); n != 0 || ok {
			t.Errorf("%q is %d, %v", name, n, ok)
		}
	}
	if n, ok := (contig.Ref{}).Find(""); n != 0 || ok {
		t.Error("no contig has a name")
	}
	all := many(100)
	for i, c := range all.Contigs {
		if n, ok := all.Find(c.Name); n != i || !ok {
			t.Errorf("%d is %d, %v", i, n, ok)
		}
	}
}

// TestLen: P12.1; how many letters; 0, if there is no such contig.
func TestLen(t *testing.T) {
	r := of("a", "ACGT", "b", "", "*", "NN")
	for i, want := range []int{4, 0, 2} {
		if r.Len(i) != want {
			t.Errorf("%d has %d", i, r.Len(i))
		}
	}
	for _, i := range []int{-1, -2, 3, 4, 1 << 32, math.MinInt, math.MaxInt} {
		if r.Len(i) != 0 {
			t.Errorf("%d has %d", i, r.Len(i))
		}
	}
	if (contig.Ref{}).Len(0) != 0 {
		t.Error("there is no contig")
	}
}

// TestAt: P12.1; the first letter is 1; 0, if there is none.
func TestAt(t *testing.T) {
	r := of("a", "ACGT", "b", "", "c", "NNx")
	for i, c := range r.Contigs {
		for j, want := range c.Seq {
			if got := r.At(i, j+1); got != want {
				t.Errorf("%d of %d is %q, not %q", j+1, i, got, want)
			}
		}
		for _, pos := range []int{0, -1, -4, len(c.Seq) + 1, len(c.Seq) + 2, 1 << 32, 1<<32 + 1, math.MinInt, math.MinInt + 1, math.MaxInt} {
			if got := r.At(i, pos); got != 0 {
				t.Errorf("%d of %d is %q", pos, i, got)
			}
		}
	}
	for _, i := range []int{-1, 3, 4, 1 << 32, math.MinInt, math.MaxInt} {
		for _, pos := range []int{-1, 0, 1, 2, math.MinInt, math.MaxInt} {
			if got := r.At(i, pos); got != 0 {
				t.Errorf("%d of %d is %q", pos, i, got)
			}
		}
	}
	if of("a", "ACGT").At(0, 2) != 'C' {
		t.Error("the chapter's example")
	}
}

// TestSame: P12.1; in all: how many, their order, names and letters.
func TestSame(t *testing.T) {
	all := []contig.Ref{
		{}, of("a", "A"), of("b", "A"), of("a", "C"), of("a", "AA"), of("aa", "A"), of("a", ""), of("", "A"), of("", ""),
		of("a", "A", "b", "C"), of("b", "C", "a", "A"), of("a", "A", "b", "G"), of("a", "A", "c", "C"), of("a", "C", "b", "A"), of("a", "AC", "b", ""), of("a", "A", "", ""), of("a", "A", "a", "A"), of("a", "A", "b", "C", "d", "T"),
		of("A", "a"), of("a", "a"),
	}
	for i, a := range all {
		for j, b := range all {
			if contig.Same(a, copied(b)) != (i == j) || alike(a, b) != (i == j) {
				t.Errorf("%q and %q: %v", told(a), told(b), contig.Same(a, b))
			}
		}
	}
}

// TestEmptyIsNil: R5; no contigs, and no letters, nil or empty.
func TestEmptyIsNil(t *testing.T) {
	none, empty := contig.Ref{}, contig.Ref{Contigs: []contig.Contig{}}
	if !contig.Same(none, empty) || !contig.Same(empty, none) || empty.Check() != none.Check() || len(empty.Text()) != 0 {
		t.Error("contigs")
	}
	a, b := contig.Ref{Contigs: []contig.Contig{{Name: "a"}}}, of("a", "")
	if !contig.Same(a, b) || !contig.Same(b, a) || a.Check() != b.Check() || string(a.Text()) != string(b.Text()) {
		t.Error("letters")
	}
	r, e := contig.Parse(nil)
	s, f := contig.Parse([]byte{})
	if e != f || !contig.Same(r, s) {
		t.Error("a text")
	}
}
