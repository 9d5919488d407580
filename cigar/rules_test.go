package cigar_test

import (
	"math"
	"reflect"
	"testing"

	"scriptorium/api"
	"scriptorium/cigar"
)

// asked: what all calls answer of ops.
func asked(c cigar.Cigar) []any {
	back, e := cigar.Parse(c.Text())
	n, ok := cigar.Number(c.Text(), 3)
	all := []any{c.Check(), c.Read(), c.Ref(), c.Plain(), c.Text(), len(back), e, n, ok, cigar.Same(c, of(3, 'M')), cigar.Same(of(3, 'M'), c)}
	for _, o := range c {
		all = append(all, o.Check(), o.Reads(), o.Refers())
	}
	return all
}

// TestNothingHandedInIsChanged: R6, spare room included, of ops that may be and of others.
func TestNothingHandedInIsChanged(t *testing.T) {
	for _, c := range []cigar.Cigar{nil, of(3, 'M'), of(3, 'M', 1, 'D', 2, 'M'), of(0, 'M', -1, 'Z'), times(201, 1, 'M')} {
		all := and(c, of(5, 'X', 6, 'P'))
		before := and(all)
		asked(all[:len(c)])
		if !alike(all, before) {
			t.Errorf("%.60q was changed", told(before))
		}
	}
}

// TestAnswersAreNewMemory: R6; what is parsed shares nothing with what is parsed next.
func TestAnswersAreNewMemory(t *testing.T) {
	for _, s := range []string{"*", "3M", "3M1D2M"} {
		c, _ := cigar.Parse(s)
		d, _ := cigar.Parse(s)
		for i := range c[:cap(c)] {
			c[:cap(c)][i] = cigar.Op{Len: 9, Kind: 'P'}
		}
		if d.Text() != s {
			t.Errorf("%q became %q", s, d.Text())
		}
	}
}

// TestAnswersHangOnArgumentsAlone: R8; whatever was asked ahead.
func TestAnswersHangOnArgumentsAlone(t *testing.T) {
	c := of(2, 'S', 3, 'M', 1, 'D', 2, 'M')
	first := asked(c)
	for _, other := range []cigar.Cigar{nil, of(3, 'M'), of(1, '=', 2, 'X'), of(0, 'M'), of(1, 'Z'), times(201, 1, 'M'), times(9, longest, 'M')} {
		asked(other)
		if !reflect.DeepEqual(asked(and(c)), first) {
			t.Fatal("answers hang on each other")
		}
	}
}

// TestAnyCalls: P1; no call comes down, whatever it is given; what Parse takes may be.
func TestAnyCalls(t *testing.T) {
	d := dice(1313)
	edges := []int{math.MinInt, -1 << 32, -1, 0, 1, 2, 9, 10, longest, longest + 1, 1 << 31, 1 << 32, math.MaxInt}
	pieces := []string{"*", "M", "I", "=", "0", "1", "12", "268435455", "268435456", "9999999999", "-", "+", "1M", "2D", "\n", "\x00", "\xff", "é"}
	taken := 0
	for range 30000 {
		s := ""
		for range d.below(7) {
			s += pieces[d.below(len(pieces))]
		}
		c, e := cigar.Parse(s)
		if e == api.OK && (c.Check() != api.OK || c.Text() != s) || e != api.OK && (len(c) != 0 || e != api.ErrCigar) {
			t.Fatalf("%q is taken as %q, error %d", s, told(c), int(e))
		}
		if len(c) > 0 {
			taken++
		}
		if n, ok := cigar.Number(s, edges[d.below(len(edges))]); n < 0 || ok && !aNumber.MatchString(s) {
			t.Fatalf("%q is %d", s, n)
		}
		for range d.below(6) {
			c = append(c, cigar.Op{Len: edges[d.below(len(edges))], Kind: byte(d.below(256))})
		}
		asked(c)
		if !cigar.Same(c, c) {
			t.Fatalf("%q isn't the same", told(c))
		}
	}
	if taken < 500 {
		t.Errorf("only %d were taken", taken)
	}
}
