package desc_test

import (
	"math"
	"reflect"
	"slices"

	"scriptorium/api"
	"scriptorium/desc"
	"scriptorium/huff"
)

// dice are numbers that look like chance and are the same at each run.
type dice uint64

func (d *dice) below(n int) int {
	*d = *d*6364136223846793005 + 1442695040888963407
	return int(uint64(*d>>33) % uint64(n))
}

// number: as chapter 2 tells it, of 32 bits, in as few bytes as it needs; a signed one below 0 as 2^32 more.
func number(n int) []byte {
	if n < 0 {
		n += 1 << 32
	}
	switch {
	case n < 1<<7:
		return []byte{byte(n)}
	case n < 1<<14:
		return []byte{byte(0x80 + n>>8), byte(n)}
	case n < 1<<21:
		return []byte{byte(0xc0 + n>>16), byte(n >> 8), byte(n)}
	case n < 1<<28:
		return []byte{byte(0xe0 + n>>24), byte(n >> 16), byte(n >> 8), byte(n)}
	}
	return []byte{byte(0xf0 + n>>28), byte(n >> 20), byte(n >> 12), byte(n >> 4), byte(n % 16)}
}

// spelt: numbers, one behind the other.
func spelt(numbers ...int) []byte {
	var b []byte
	for _, n := range numbers {
		b = append(b, number(n)...)
	}
	return b
}

// entries: of a number and its size, of the next number and its size, and so on.
func entries(all ...int) []huff.Entry {
	var l []huff.Entry
	for i := 0; i < len(all); i += 2 {
		l = append(l, huff.Entry{Symbol: all[i], Size: all[i+1]})
	}
	return l
}

// many: so many numbers that rise, all of one size.
func many(n, size int) []huff.Entry {
	var l []huff.Entry
	for i := range n {
		l = append(l, huff.Entry{Symbol: 1000*i - 9000, Size: size})
	}
	return l
}

func outside(block int) desc.Ints {
	return desc.Ints{Kind: desc.Outside, Block: block}
}

func words(l []huff.Entry) desc.Ints {
	return desc.Ints{Kind: desc.Words, Entries: l}
}

func fixed(least, bits int) desc.Ints {
	return desc.Ints{Kind: desc.Fixed, Least: least, Bits: bits}
}

func counted(block int, d desc.Ints) desc.Arrays {
	return desc.Arrays{Kind: desc.Count, Block: block, Ints: d}
}

func stopped(block int, stop byte) desc.Arrays {
	return desc.Arrays{Kind: desc.Stopped, Block: block, Stop: stop}
}

// toldInts: a way as the chapter puts it: numbers, all of them, so that they can be spelt as they are or spoilt.
func toldInts(d desc.Ints) []int {
	switch d.Kind {
	case 1:
		return []int{1, d.Block}
	case 3:
		l := []int{3, len(d.Entries)}
		for _, x := range d.Entries {
			l = append(l, x.Symbol)
		}
		for _, x := range d.Entries {
			l = append(l, x.Size)
		}
		return l
	}
	return []int{int(d.Kind), d.Least, d.Bits}
}

// toldArrays: likewise, as bytes: Stop is one, not a number.
func toldArrays(d desc.Arrays) []byte {
	b := spelt(int(d.Kind), d.Block)
	if d.Kind == 5 {
		return append(b, d.Stop)
	}
	return append(b, spelt(toldInts(d.Ints)...)...)
}

// ints: ways that Check takes, at each border and between, without anything that doesn't belong to their kind.
func ints() []desc.Ints {
	var all []desc.Ints
	for _, block := range []int{1, 2, 7, 127, 128, 255, 256, 16383, 16384, 59999, 60000} {
		all = append(all, outside(block))
	}
	for _, least := range []int{-api.MaxInt, 1 - api.MaxInt, -1 << 28, -300, -128, -1, 0, 1, 127, 128, 1 << 14, 1 << 21, 1 << 28, api.MaxInt - 1, api.MaxInt} {
		for _, bits := range []int{0, 1, 7, 30, 31} {
			all = append(all, fixed(least, bits))
		}
	}
	for _, l := range [][]huff.Entry{
		entries(0, 0), entries(-1, 0), entries(api.MaxInt, 0), entries(-api.MaxInt, 1), entries(9, 20),
		entries(-4, 1, 2, 2, 9, 2), entries(-api.MaxInt, 20, 0, 1, api.MaxInt, 20), entries(1, 1, 2, 1), entries(127, 3, 128, 3, 1<<14, 3, 1<<21, 3, 1<<28, 3),
		many(255, 8), many(256, 8), many(256, 20),
	} {
		all = append(all, words(l))
	}
	d := dice(90)
	for n := 1; n <= 256; n += 17 {
		counts := map[int]int{}
		for range n {
			counts[d.below(1<<(1+d.below(31)))-d.below(1<<(1+d.below(31)))] = 1 + d.below(900)
		}
		l, _ := huff.Sizes(counts)
		all = append(all, words(l))
	}
	return all
}

// arrays: likewise.
func arrays() []desc.Arrays {
	var all []desc.Arrays
	for _, block := range []int{1, 127, 128, 16384, 60000} {
		for _, stop := range []byte{0, 1, 9, 10, 127, 128, 192, 240, 255} {
			all = append(all, stopped(block, stop))
		}
	}
	for i, d := range ints() {
		all = append(all, counted(1+i*i%60000, d))
	}
	return append(all, counted(60000, outside(60000)), counted(1, outside(60000)))
}

// wrong is a way that Check refuses, and its error.
type wrong struct {
	d    desc.Ints
	want api.Errno
}

// refused: ways of numbers at each border's other side.
func refused() []wrong {
	var all []wrong
	for _, n := range []int{0, -1, 60001, 65536 + 1, 1<<32 + 1, math.MinInt, math.MaxInt} {
		all = append(all, wrong{outside(n), api.ErrRange})
	}
	for _, n := range []int{-api.MaxInt - 1, api.MaxInt + 1, 1 << 32, -1 << 32, math.MinInt, math.MaxInt} {
		all = append(all, wrong{fixed(n, 5), api.ErrRange})
	}
	for _, n := range []int{-1, 32, 33, 64, 1 << 32, math.MinInt, math.MaxInt} {
		all = append(all, wrong{fixed(3, n), api.ErrRange})
	}
	for kind := range 256 {
		if !slices.Contains([]int{1, 3, 6}, kind) {
			all = append(all, wrong{desc.Ints{Kind: desc.Kind(kind), Block: 1, Entries: entries(1, 0), Least: 1, Bits: 1}, api.ErrKind})
		}
	}
	return append(all,
		wrong{words(nil), api.ErrMany},
		wrong{words([]huff.Entry{}), api.ErrMany},
		wrong{words(many(257, 9)), api.ErrMany},
		wrong{words(many(257, 21)), api.ErrMany},
		wrong{words(entries(api.MaxInt+1, 1)), api.ErrRange},
		wrong{words(entries(-api.MaxInt-1, 1)), api.ErrRange},
		wrong{words(entries(1<<32, 1)), api.ErrRange},
		wrong{words(entries(1, 21)), api.ErrRange},
		wrong{words(entries(1, -1)), api.ErrRange},
		wrong{words(entries(1, 1, 2, 1<<32+1)), api.ErrRange},
		wrong{words(entries(1, 0, 2, 1)), api.ErrCode},
		wrong{words(entries(1, 1, 2, 0)), api.ErrCode},
		wrong{words(entries(1, 1, 2, 1, 3, 20)), api.ErrCode},
		wrong{words(entries(1, 1, 1, 1)), api.ErrOrder},
		wrong{words(entries(2, 1, 1, 1)), api.ErrOrder},
		wrong{words(entries(-1, 2, 1, 2, -2, 2)), api.ErrOrder},
		wrong{desc.Ints{}, api.ErrKind},
	)
}

// zero: has an answer nothing at all in it?
func zero(d any) bool {
	return reflect.ValueOf(d).IsZero()
}
