package huff

import (
	"cmp"
	"slices"

	"scriptorium/api"
)

// Sizes: of how often each number comes, sizes for them, by the numbers, rising; so that all have together as few bits as may be, if no word has more than it may.
func Sizes(counts map[int]int) ([]Entry, api.Errno) {
	if !mayBeMany(len(counts)) {
		return nil, api.ErrMany
	}
	for n, count := range counts {
		if count < 1 || count > api.MaxInt || !mayBeNumber(n) {
			return nil, api.ErrRange
		}
	}
	numbers := rarestFirst(counts)
	singles := make([]int, len(numbers))
	for i, n := range numbers {
		singles[i] = counts[n]
	}
	l := make([]Entry, len(numbers))
	for i, size := range sizesOf(singles) {
		l[i] = Entry{Symbol: numbers[i], Size: size}
	}
	slices.SortFunc(l, func(a, b Entry) int {
		return cmp.Compare(a.Symbol, b.Symbol)
	})
	return l, api.OK
}

// rarestFirst: the numbers by how often they come, then by themselves, so that nothing hangs on the map's order.
func rarestFirst(counts map[int]int) []int {
	numbers := make([]int, 0, len(counts))
	for n := range counts {
		numbers = append(numbers, n)
	}
	slices.SortFunc(numbers, func(a, b int) int {
		return cmp.Or(cmp.Compare(counts[a], counts[b]), cmp.Compare(a, b))
	})
	return numbers
}

// item is a single number, or a pair of items of the row below, with what it weighs: how often all its numbers come, in all.
type item struct {
	weight int
	single bool
}

// sizesOf: of how often numbers come, the rarest first, their sizes. This is package-merge: each bit that a word may have is a row, in which a number may be taken once; a pair of one row is an item of the next. The lightest 2n - 2 items of the last row, all their pairs taken apart, hold each number once for each bit of its word. (Of one number that is never: size 0.)
func sizesOf(singles []int) []int {
	rows := make([][]item, api.MaxCode)
	var pairs []item
	for i := range rows {
		rows[i] = merged(singles, pairs)
		pairs = paired(rows[i])
	}
	sizes := make([]int, len(singles))
	taken := 2*len(singles) - 2
	for i := len(rows) - 1; i >= 0; i-- {
		alone := countSingles(rows[i][:taken])
		for j := range alone {
			sizes[j]++
		}
		taken = 2 * (taken - alone)
	}
	return sizes
}

// merged: singles and pairs, both rising, as one row, rising; of the same weight a single comes first.
func merged(singles []int, pairs []item) []item {
	row := make([]item, 0, len(singles)+len(pairs))
	for _, weight := range singles {
		for len(pairs) > 0 && pairs[0].weight < weight {
			row = append(row, pairs[0])
			pairs = pairs[1:]
		}
		row = append(row, item{weight: weight, single: true})
	}
	return append(row, pairs...)
}

// paired: a row's items, two and two; one that is left over at the end is in none.
func paired(row []item) []item {
	pairs := make([]item, 0, len(row)/2)
	for i := 1; i < len(row); i += 2 {
		pairs = append(pairs, item{weight: row[i-1].weight + row[i].weight})
	}
	return pairs
}

// countSingles: how many of the items are single numbers.
func countSingles(row []item) int {
	n := 0
	for _, x := range row {
		if x.single {
			n++
		}
	}
	return n
}
