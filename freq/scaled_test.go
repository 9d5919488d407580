package freq_test

import (
	"bytes"
	"math"
	"testing"

	"scriptorium/api"
	"scriptorium/freq"
)

// fits: counts' parts are those of the model, and may be a table.
func fits(t *testing.T, what string, in [256]int) {
	t.Helper()
	got, ok := freq.Scaled(in)
	if !ok || got.Check() != api.OK {
		t.Errorf("%s: %v, check %d", what, ok, int(got.Check()))
	}
	if want := scaled(in); got != want {
		t.Errorf("%s: %v, not %v", what, got, want)
	}
}

// gives: counts' parts are those told.
func gives(t *testing.T, what string, in, want map[byte]int) {
	t.Helper()
	got, ok := freq.Scaled(counts(in))
	if !ok || got != table(want) {
		t.Errorf("%s: %v, %v", what, got, ok)
	}
	fits(t, what, counts(in))
}

// TestOneByteAlone: the chapter's example.
func TestOneByteAlone(t *testing.T) {
	for c := range 256 {
		for _, n := range []int{1, 2, 3, 4095, 4096, 4097, api.MaxInt} {
			gives(t, "alone", map[byte]int{byte(c): n}, map[byte]int{byte(c): 4096})
		}
	}
}

// TestSharesWithoutRest: P6.1; counts that divide 4096 evenly.
func TestSharesWithoutRest(t *testing.T) {
	gives(t, "halves", map[byte]int{3: 7, 200: 7}, map[byte]int{3: 2048, 200: 2048})
	gives(t, "quarters", map[byte]int{0: 1, 5: 2, 255: 1}, map[byte]int{0: 1024, 5: 2048, 255: 1024})
	gives(t, "parts already", map[byte]int{0: 1, 5: 4094, 255: 1}, map[byte]int{0: 1, 5: 4094, 255: 1})
	if got, ok := freq.Scaled(every(1)); !ok || got != every(16) {
		t.Errorf("all: %v", got)
	}
	if got, ok := freq.Scaled(every(api.MaxInt)); !ok || got != every(16) {
		t.Errorf("all of the greatest: %v", got)
	}
}

// TestTheRestGoesToTheGreatestCount: P6.1; the first of such, and the count, not the part.
func TestTheRestGoesToTheGreatestCount(t *testing.T) {
	gives(t, "aab", map[byte]int{'a': 2, 'b': 1}, map[byte]int{'a': 2731, 'b': 1365})
	gives(t, "baa", map[byte]int{'a': 1, 'b': 2}, map[byte]int{'a': 1365, 'b': 2731})
	gives(t, "three alike", map[byte]int{4: 1, 5: 1, 6: 1}, map[byte]int{4: 1366, 5: 1365, 6: 1365})
	gives(t, "the later ones alike", map[byte]int{4: 1, 5: 2, 6: 2}, map[byte]int{4: 819, 5: 1639, 6: 1638})
	gives(t, "seven alike", map[byte]int{1: 9, 2: 9, 3: 9, 4: 9, 5: 9, 6: 9, 7: 9}, map[byte]int{1: 586, 2: 585, 3: 585, 4: 585, 5: 585, 6: 585, 7: 585})
	gives(t, "the same parts", map[byte]int{1: 1000000, 2: 1000001, 3: 1000000}, map[byte]int{1: 1365, 2: 1366, 3: 1365})
	gives(t, "the same parts, the last the greatest", map[byte]int{1: 1000000, 2: 1000000, 3: 1000001}, map[byte]int{1: 1365, 2: 1365, 3: 1366})
}

// TestEachHasOnePartAtLeast: P6.1; what is over is lost by the greatest part, the first of such.
func TestEachHasOnePartAtLeast(t *testing.T) {
	gives(t, "one rare", map[byte]int{0: api.MaxInt, 1: 1}, map[byte]int{0: 4095, 1: 1})
	gives(t, "one rare ahead", map[byte]int{0: 1, 1: api.MaxInt}, map[byte]int{0: 1, 1: 4095})
	gives(t, "two rare", map[byte]int{3: 1, 4: 10000, 5: 10000, 6: 1}, map[byte]int{3: 1, 4: 2047, 5: 2047, 6: 1})
	gives(t, "three rare", map[byte]int{0: 1, 1: 1, 3: 1, 4: 10000, 5: 10000}, map[byte]int{0: 1, 1: 1, 3: 1, 4: 2046, 5: 2047})
	gives(t, "three rare, the later one commoner", map[byte]int{0: 1, 1: 1, 3: 1, 4: 10000000, 5: 10000001}, map[byte]int{0: 1, 1: 1, 3: 1, 4: 2046, 5: 2047})
	gives(t, "the greatest comes down to the next", map[byte]int{0: 1, 1: 1, 2: 1, 3: 1, 4: 1000000, 5: 1001000}, map[byte]int{0: 1, 1: 1, 2: 1, 3: 1, 4: 2046, 5: 2046})
	gives(t, "just one part", map[byte]int{1: 1, 2: 4095}, map[byte]int{1: 1, 2: 4095})
	gives(t, "below one part, which makes it even", map[byte]int{1: 1, 2: 4096}, map[byte]int{1: 1, 2: 4095})
}

// TestAllBytesWithRareOnes: P6.1; as much is over as can be.
func TestAllBytesWithRareOnes(t *testing.T) {
	for great := 1; great < 256; great += 6 {
		for _, n := range []int{2, 50, 5000, 1 << 20, api.MaxInt} {
			in := every(1)
			for i := range great {
				in[(i*37+11)%256] = n
			}
			fits(t, "many rare", in)
		}
	}
}

// TestScaledOfAnyCounts: P6.1; counts of all kinds.
func TestScaledOfAnyCounts(t *testing.T) {
	d := dice(61)
	for range 3000 {
		in := [256]int{}
		most := 1 + d.below(1<<(1+d.below(31)))
		for range 1 + d.below(1+d.below(400)) {
			in[d.below(256)] = d.below(1 + d.below(most))
		}
		in[d.below(256)] = 1 + d.below(most)
		fits(t, "any counts", in)
	}
}

// TestScaledErrors: P6.1; each border, wherever it lies.
func TestScaledErrors(t *testing.T) {
	if got, ok := freq.Scaled([256]int{}); ok || got != (freq.Table{}) {
		t.Error("all are 0")
	}
	for _, n := range []int{-1, math.MinInt, -4096, api.MaxInt + 1, 1 << 32, 1<<32 + 1, math.MaxInt} {
		for c := range 256 {
			for _, in := range [][256]int{{}, every(1), every(api.MaxInt)} {
				in[c] = n
				if got, ok := freq.Scaled(in); ok || got != (freq.Table{}) {
					t.Errorf("count %d of byte %d is taken", n, c)
				}
			}
		}
	}
	for _, in := range []map[byte]int{{0: 1, 1: -1}, {0: -1, 1: 1, 2: 7}, {7: math.MinInt, 8: math.MinInt}, {7: math.MaxInt, 8: math.MaxInt, 9: 3}} {
		if got, ok := freq.Scaled(counts(in)); ok || got != (freq.Table{}) {
			t.Errorf("%v is taken", in)
		}
	}
}

// TestOf: P6.1; it is of how often each byte comes.
func TestOf(t *testing.T) {
	for _, none := range [][]byte{nil, {}} {
		if got, ok := freq.Of(none); ok || got != (freq.Table{}) {
			t.Error("a table of no bytes")
		}
	}
	got, ok := freq.Of([]byte("aab"))
	if !ok || got != table(map[byte]int{'a': 2731, 'b': 1365}) {
		t.Errorf("aab: %v", got)
	}
	d := dice(62)
	for range 300 {
		b := make([]byte, 1+d.below(2000))
		most := 1 + d.below(256)
		in := [256]int{}
		for i := range b {
			b[i] = byte(255 - d.below(1+d.below(most)))
			in[b[i]]++
		}
		if got, ok := freq.Of(b); !ok || got != scaled(in) {
			t.Errorf("%x: %v", b, got)
		}
	}
}

// TestOfManyBytes: P6.1; as many as a block has at most.
func TestOfManyBytes(t *testing.T) {
	b := bytes.Repeat([]byte{200}, api.MaxBlock)
	b[api.MaxBlock-1] = 3
	if got, ok := freq.Of(b); !ok || got != table(map[byte]int{3: 1, 200: 4095}) {
		t.Errorf("many bytes: %v", got)
	}
}
