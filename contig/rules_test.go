package contig_test

import (
	"bytes"
	"math"
	"reflect"
	"testing"

	"scriptorium/api"
	"scriptorium/contig"
)

// asked: what all calls answer of contigs.
func asked(r contig.Ref) []any {
	n, ok := r.Find("b")
	return []any{r.Check(), r.Text(), n, ok, r.Len(1), r.At(0, 3), contig.Same(r, of("a", "ACGT", "b", "NN")), contig.Named("a")}
}

// TestNothingHandedInIsChanged: R6, spare room included, of contigs that may be and of others.
func TestNothingHandedInIsChanged(t *testing.T) {
	for _, r := range []contig.Ref{of("a", "ACGT", "b", "NN"), of("a", "x", "a", ""), of("*", ""), many(101)} {
		for i := range r.Contigs {
			r.Contigs[i].Seq = append(r.Contigs[i].Seq, "spare"...)[:len(r.Contigs[i].Seq)]
		}
		all := append(r.Contigs, contig.Contig{Name: "z", Seq: []byte("G")})
		r.Contigs = all[:len(r.Contigs)]
		before := copied(contig.Ref{Contigs: all})
		asked(r)
		contig.Same(of("a", "ACGT"), r)
		if !alike(contig.Ref{Contigs: all}, before) {
			t.Errorf("%.60q was changed", told(before))
		}
		for i := range r.Contigs {
			s := r.Contigs[i].Seq
			if string(s[:len(s)+5][len(s):]) != "spare" {
				t.Errorf("spare room of %d was changed", i)
			}
		}
	}
	for _, s := range []string{">a\nACGT\n>b\nNN\n", ">a\nACGT\n>b\nNN", ">a\nacgt\n", ""} {
		in := append([]byte(s), "spare"...)
		before := bytes.Clone(in)
		contig.Parse(in[:len(s)])
		if !bytes.Equal(in, before) {
			t.Errorf("%q was changed to %q", before, in)
		}
	}
}

// TestAnswersAreNewMemory: R6; contigs share nothing with their text, nor with each other; a text nothing with its contigs.
func TestAnswersAreNewMemory(t *testing.T) {
	in := []byte(">a\nACGT\n>b\nNN\n>c\nGG\n")
	want := of("a", "ACGT", "b", "NN", "c", "GG")
	r, _ := contig.Parse(in)
	s, _ := contig.Parse(in)
	for i := range in {
		in[i] = '!'
	}
	if !alike(r, want) {
		t.Error("contigs share memory with their text")
	}
	text, other := r.Text(), r.Text()
	for i := range text[:cap(text)] {
		text[:cap(text)][i] = '?'
	}
	if !alike(r, want) || string(other) != told(want) {
		t.Error("a text shares memory")
	}
	first := r.Contigs[0].Seq
	for i := range first[:cap(first)] {
		first[:cap(first)][i] = '?'
	}
	_ = append(r.Contigs[1].Seq, "????????????????"...)
	if string(r.Contigs[1].Seq) != "NN" || string(r.Contigs[2].Seq) != "GG" || !alike(s, want) {
		t.Error("contigs share memory with each other")
	}
}

// TestAnswersHangOnArgumentsAlone: R8; whatever was asked ahead.
func TestAnswersHangOnArgumentsAlone(t *testing.T) {
	r := of("a", "ACGT", "b", "NN")
	first := asked(r)
	for _, other := range []contig.Ref{{}, of("b", "A"), of("*", ""), many(101), of("a", "A", "a", "x")} {
		asked(other)
		contig.Parse(other.Text())
		if !reflect.DeepEqual(asked(copied(r)), first) {
			t.Fatal("answers hang on each other")
		}
	}
}

// TestAnyCalls: P1; no call comes down, whatever it is given; what Parse takes may be.
func TestAnyCalls(t *testing.T) {
	d := dice(1212)
	edges := []int{math.MinInt, -1 << 32, -2, -1, 0, 1, 2, 3, 4, 5, 99, 100, 101, 1 << 31, 1 << 32, math.MaxInt}
	pieces := []string{">", "\n", ">a\n", ">b\n", ">b\nAC\n", "ACGTN\n", "A", "NN", "=", "\x00", "\xff", "é"}
	taken := 0
	for range 30000 {
		var b []byte
		for range d.below(9) {
			b = append(b, pieces[d.below(len(pieces))]...)
		}
		r, e := contig.Parse(b)
		if e == api.OK && (r.Check() != api.OK || !bytes.Equal(r.Text(), b)) || e != api.OK && r.Contigs != nil {
			t.Fatalf("%q is taken as %q, error %d", b, r.Text(), int(e))
		}
		if e == api.OK && len(b) > 0 {
			taken++
		}
		half := d.below(len(b) + 1)
		raw := of(string(b[:half]), string(b[half:]), string(b[half:]), string(b[:half]))
		for _, x := range []contig.Ref{r, raw} {
			asked(x)
			i, pos := edges[d.below(len(edges))], edges[d.below(len(edges))]
			if got := x.At(i, pos); got != 0 && (i < 0 || i > 1 || pos < 1 || pos > x.Len(i)) {
				t.Fatalf("%d of %d is %q", pos, i, got)
			}
			if !contig.Same(x, x) {
				t.Fatalf("%q isn't the same", told(x))
			}
		}
	}
	if taken < 200 {
		t.Errorf("only %d were taken", taken)
	}
}
