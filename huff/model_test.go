package huff_test

import (
	"fmt"
	"math"
	"slices"
	"strconv"
	"strings"

	"scriptorium/api"
	"scriptorium/huff"
)

// one is how many of the smallest words there are room for.
const one = 1 << api.MaxCode

// words: of entries with right numbers and sizes, the words that the chapter gives them, as noughts and ones, by their numbers; nil, if one doesn't fit. A word is told here by how much room those ahead of it take, not by the one ahead.
func words(l []huff.Entry) map[int]string {
	all := map[int]string{}
	room := 0
	for size := 0; size <= api.MaxCode; size++ {
		for _, x := range l {
			if x.Size != size {
				continue
			}
			all[x.Symbol] = fmt.Sprintf("%021b", room)[1:][:size]
			room += one >> size
			if room > one {
				return nil
			}
		}
	}
	return all
}

// packed: noughts and ones as bytes, the first being the highest, noughts behind.
func packed(text string) []byte {
	text += strings.Repeat("0", (8-len(text)%8)%8)
	var b []byte
	for at := 0; at < len(text); at += 8 {
		n, _ := strconv.ParseUint(text[at:at+8], 2, 8)
		b = append(b, byte(n))
	}
	return b
}

// whose: the number whose word a text of noughts and ones begins with; false: nobody's.
func whose(text string, all map[int]string) (int, bool) {
	for n, word := range all {
		if strings.HasPrefix(text, word) {
			return n, true
		}
	}
	return 0, false
}

// least: the least sum of counts times sizes that any sizes have which are at most so many bits, and leave no words over. The tree is built depth by depth, with so many open places; the commonest number goes first.
func least(counts []int, most int) int {
	sorted := slices.Sorted(slices.Values(counts))
	slices.Reverse(sorted)
	type state struct{ depth, given, open int }
	known := map[state]int{}
	var best func(s state) int
	best = func(s state) int {
		left := len(sorted) - s.given
		if s.open > left || s.depth > most || s.open == 0 && left > 0 {
			return math.MaxInt
		}
		if left == 0 {
			return 0
		}
		if n, ok := known[s]; ok {
			return n
		}
		n := best(state{s.depth + 1, s.given, 2 * s.open})
		if leaf := best(state{s.depth, s.given + 1, s.open - 1}); leaf < math.MaxInt {
			n = min(n, leaf+sorted[s.given]*s.depth)
		}
		known[s] = n
		return n
	}
	return best(state{0, 0, 1})
}

// deepest: how long the longest word is if two of the lightest are always joined, without a limit.
func deepest(counts []int) int {
	type tree struct{ weight, depth int }
	var all []tree
	for _, n := range counts {
		all = append(all, tree{n, 0})
	}
	for len(all) > 1 {
		slices.SortFunc(all, func(a, b tree) int { return a.weight - b.weight })
		all = append(all[2:], tree{all[0].weight + all[1].weight, max(all[0].depth, all[1].depth) + 1})
	}
	return all[0].depth
}

// dice are numbers that look like chance and are the same at each run.
type dice uint64

func (d *dice) below(n int) int {
	*d = *d*6364136223846793005 + 1442695040888963407
	return int(uint64(*d>>33) % uint64(n))
}
