package huff_test

import (
	"fmt"
	"math"
	"slices"
	"testing"

	"scriptorium/api"
	"scriptorium/huff"
)

// mapOf: counts of numbers that rise, some of them below 0.
func mapOf(counts []int) map[int]int {
	all := map[int]int{}
	for i, count := range counts {
		all[3*i-len(counts)] = count
	}
	return all
}

// fits holds the sizes of counts against all that P5.1 says of them.
func fits(t *testing.T, what string, counts []int) {
	t.Helper()
	l, e := huff.Sizes(mapOf(counts))
	if e != api.OK || len(l) != len(counts) {
		t.Fatalf("%s: %d entries of %d, error %d", what, len(l), len(counts), int(e))
	}
	bits, room := 0, 0
	for i, x := range l {
		if x.Symbol != 3*i-len(counts) || x.Size < 1 || x.Size > api.MaxCode {
			t.Fatalf("%s: entry %d is %v", what, i, x)
		}
		bits += counts[i] * x.Size
		room += one >> x.Size
	}
	if room != one {
		t.Errorf("%s: words take %d of %d", what, room, one)
	}
	if want := least(counts, api.MaxCode); bits != want {
		t.Errorf("%s: %d bits in all, not %d", what, bits, want)
	}
	if _, e := huff.New(l); e != api.OK {
		t.Errorf("%s: New doesn't take the sizes: %d", what, int(e))
	}
}

// TestSizesExamples: sizes that no tie leaves open.
func TestSizesExamples(t *testing.T) {
	for _, c := range []struct {
		counts map[int]int
		want   []huff.Entry
	}{
		{map[int]int{1: 5, 2: 1, 3: 1}, []huff.Entry{{1, 1}, {2, 2}, {3, 2}}},
		{map[int]int{3: 5, 2: 1, 1: 1}, []huff.Entry{{1, 2}, {2, 2}, {3, 1}}},
		{map[int]int{7: 1, -7: 1}, []huff.Entry{{-7, 1}, {7, 1}}},
		{map[int]int{7: api.MaxInt, -7: 1}, []huff.Entry{{-7, 1}, {7, 1}}},
		{map[int]int{0: 1, 1: 2, 2: 4, 3: 8, 4: 16}, []huff.Entry{{0, 4}, {1, 4}, {2, 3}, {3, 2}, {4, 1}}},
		{map[int]int{10: 6, 0: 6, -10: 6, 5: 6}, []huff.Entry{{-10, 2}, {0, 2}, {5, 2}, {10, 2}}},
		{map[int]int{api.MaxInt: 2, -api.MaxInt: 5, 0: 2}, []huff.Entry{{-api.MaxInt, 1}, {0, 2}, {api.MaxInt, 2}}},
	} {
		l, e := huff.Sizes(c.counts)
		if e != api.OK || !slices.Equal(l, c.want) {
			t.Errorf("%v: %v, error %d", c.counts, l, int(e))
		}
	}
}

// TestSizeOfOneNumber: it needs no bits.
func TestSizeOfOneNumber(t *testing.T) {
	for _, n := range []int{0, 1, -1, 255, api.MaxInt, -api.MaxInt} {
		for _, count := range []int{1, 2, 999, api.MaxInt} {
			l, e := huff.Sizes(map[int]int{n: count})
			if e != api.OK || !slices.Equal(l, []huff.Entry{{Symbol: n, Size: 0}}) {
				t.Errorf("%d alone: %v, error %d", n, l, int(e))
			}
			if _, e := huff.New(l); e != api.OK {
				t.Errorf("New doesn't take %v: %d", l, int(e))
			}
		}
	}
}

// TestSizesAreTheLeast: all short lists of small counts.
func TestSizesAreTheLeast(t *testing.T) {
	var all func(counts []int)
	all = func(counts []int) {
		if len(counts) >= 2 {
			fits(t, fmt.Sprint(counts), counts)
		}
		if len(counts) == 5 {
			return
		}
		for _, n := range []int{1, 2, 3, 5, 9} {
			all(append(slices.Clip(counts), n))
		}
	}
	all(nil)
}

// TestSizesOfManyNumbers: as many of the same count as may be.
func TestSizesOfManyNumbers(t *testing.T) {
	for n := 2; n <= api.MaxSymbols; n++ {
		if n > 40 && n < 250 && n%13 != 0 {
			continue
		}
		fits(t, fmt.Sprint(n, " alike"), slices.Repeat([]int{7}, n))
	}
	fits(t, "256 of the greatest", slices.Repeat([]int{api.MaxInt}, api.MaxSymbols))
}

// TestSizesOfAnyCounts: counts of all kinds, in any order.
func TestSizesOfAnyCounts(t *testing.T) {
	d := dice(5)
	for k := range 300 {
		counts := make([]int, 2+d.below(30+225*(k%10/9)))
		most := 1 + d.below(999)
		for i := range counts {
			counts[i] = 1 + d.below(1+d.below(most))
		}
		fits(t, fmt.Sprint("counts ", k), counts)
	}
}

// rising: so many counts, each the sum of the two ahead, up to the most; then the most. Words of such differ in size as much as they can.
func rising(n, most int) []int {
	counts := make([]int, n)
	a, b := 1, 1
	for i := range counts {
		counts[i] = a
		a, b = b, min(a+b, most)
	}
	return counts
}

// TestSizesAreAtMostTwenty: counts whose words would be longer without the limit.
func TestSizesAreAtMostTwenty(t *testing.T) {
	for _, n := range []int{20, 21, 22, 23, 24, 30, 40, 45, 46} {
		fits(t, fmt.Sprint("rising ", n), rising(n, api.MaxInt))
	}
	powers := make([]int, 31)
	for i := range powers {
		powers[i] = 1 << i
	}
	for n := 20; n <= len(powers); n++ {
		fits(t, fmt.Sprint("powers ", n), powers[:n])
	}
	if deepest(powers[:21]) != api.MaxCode || deepest(powers[:22]) <= api.MaxCode {
		t.Error("the test's counts aren't at the border")
	}
	small := rising(142, 999)
	if deepest(small) <= api.MaxCode {
		t.Error("the test's counts need no limit")
	}
	fits(t, "below 1000", small)
	fits(t, "below 1000, all numbers", rising(256, 999))
	d := dice(8)
	for k := range 20 {
		counts := rising(100+d.below(157), 900+d.below(100))
		for i := len(counts) - 1; i > 0; i-- {
			j := d.below(i + 1)
			counts[i], counts[j] = counts[j], counts[i]
		}
		fits(t, fmt.Sprint("rising, mixed ", k), counts)
	}
}

// counted: so many numbers, of which one comes as often as told.
func counted(n, number, count int) map[int]int {
	all := map[int]int{number: count}
	for i := 1; len(all) < n; i++ {
		all[1000+i] = 1
	}
	return all
}

// TestSizesErrors: each one's border, and which comes first.
func TestSizesErrors(t *testing.T) {
	for _, c := range []struct {
		what   string
		counts map[int]int
		want   api.Errno
	}{
		{"nil", nil, api.ErrMany},
		{"none", map[int]int{}, api.ErrMany},
		{"256", counted(256, 1, 1), api.OK},
		{"257", counted(257, 1, 1), api.ErrMany},
		{"1000", counted(1000, 1, 1), api.ErrMany},
		{"257, one of no count", counted(257, 1, 0), api.ErrMany},
		{"257, one out of range", counted(257, api.MaxInt+1, 1), api.ErrMany},
		{"count 0", counted(3, 1, 0), api.ErrRange},
		{"count 0 alone", counted(1, 1, 0), api.ErrRange},
		{"count -1", counted(3, 1, -1), api.ErrRange},
		{"count MinInt", counted(3, 1, math.MinInt), api.ErrRange},
		{"count MaxInt", counted(3, 1, api.MaxInt), api.OK},
		{"count above MaxInt", counted(3, 1, api.MaxInt+1), api.ErrRange},
		{"count of 2^32 and 1", counted(3, 1, 1<<32+1), api.ErrRange},
		{"count of 64 bits", counted(256, 1, math.MaxInt), api.ErrRange},
		{"number MaxInt", counted(3, api.MaxInt, 1), api.OK},
		{"number above MaxInt", counted(3, api.MaxInt+1, 1), api.ErrRange},
		{"number above MaxInt alone", counted(1, api.MaxInt+1, 1), api.ErrRange},
		{"number of 64 bits", counted(3, math.MaxInt, 1), api.ErrRange},
		{"number -MaxInt", counted(3, -api.MaxInt, 1), api.OK},
		{"number below -MaxInt", counted(3, -api.MaxInt-1, 1), api.ErrRange},
		{"number MinInt", counted(256, math.MinInt, 1), api.ErrRange},
		{"number 2^32", counted(2, 1<<32, 1), api.ErrRange},
	} {
		for range 4 {
			l, e := huff.Sizes(c.counts)
			if e != c.want || (len(l) == 0) != (e != api.OK) {
				t.Errorf("%s: error %d, not %d; %d entries", c.what, int(e), int(c.want), len(l))
			}
		}
	}
}
