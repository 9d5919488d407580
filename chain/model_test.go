package chain_test

import (
	"bytes"
	"slices"

	"scriptorium/freq"
	"scriptorium/itf"
)

// dice are numbers that look like chance and are the same at each run.
type dice uint64

func (d *dice) below(n int) int {
	*d = *d*6364136223846793005 + 1442695040888963407
	return int(uint64(*d>>33) % uint64(n))
}

// bytes: so many of so many kinds, the lower ones the commoner.
func (d *dice) bytes(size, kinds int) []byte {
	b := make([]byte, size)
	for i := range b {
		b[i] = byte(d.below(1 + d.below(kinds)))
	}
	return b
}

// walk: bytes that hang on the one ahead: at most so far from it.
func (d *dice) walk(size, far int) []byte {
	b := make([]byte, size)
	last := byte(100)
	for i := range b {
		last += byte(d.below(far))
		b[i] = last
	}
	return b
}

// step: a state that may be, behind a byte's parts, and what goes out, as chapter 7 tells it. How many bytes go is told here by division alone, not one by one.
func step(s, start, parts int) (int, []byte) {
	out := []byte{}
	for divisor := 1; s/divisor >= parts<<19; divisor *= 256 {
		out = append(out, byte(s/divisor%256))
	}
	for range out {
		s /= 256
	}
	return 4096*(s/parts) + s%parts + start, out
}

// least: the states that Put begins with.
func least() [4]int {
	return [4]int{8388608, 8388608, 8388608, 8388608}
}

// states: four words.
func states(f [4]int) []byte {
	b := []byte{}
	for _, s := range f {
		b = append(b, byte(s), byte(s>>8), byte(s>>16), byte(s>>24))
	}
	return b
}

// number: as chapter 2 puts it.
func number(n int) []byte {
	w := &itf.Writer{}
	w.Int(uint32(n))
	return w.Bytes()
}

// tabled: a table as chapter 6 puts it.
func tabled(t freq.Table) []byte {
	w := &itf.Writer{}
	t.Put(w)
	return w.Bytes()
}

// cuts: where the quarters of so many bytes begin, and where the last one ends.
func cuts(n int) [5]int {
	return [5]int{0, n / 4, n / 2, n/2 + n/4, n}
}

// aheads: of each byte the one ahead of it. Where a quarter begins, be it empty, the byte is the first of one.
func aheads(b []byte) []byte {
	c := cuts(len(b))
	all := []byte{}
	for i := range b {
		if slices.Contains(c[:], i) {
			all = append(all, 0)
		} else {
			all = append(all, b[i-1])
		}
	}
	return all
}

// entry is a byte that is ahead of others, and the table of these.
type entry struct {
	first byte
	table freq.Table
}

// own: the tables of bytes, rising.
func own(b []byte) []entry {
	before := aheads(b)
	all := []entry{}
	for first := range 256 {
		behind := []byte{}
		for i, c := range b {
			if int(before[i]) == first {
				behind = append(behind, c)
			}
		}
		if t, ok := freq.Of(behind); ok {
			all = append(all, entry{byte(first), t})
		}
	}
	return all
}

// spot is where a byte is, and in which quarter.
type spot struct{ at, quarter int }

// spots: of so many bytes, in the order in which they come back.
func spots(n int) []spot {
	c := cuts(n)
	all := []spot{}
	for place := range n {
		for q := range 4 {
			if c[q]+place < c[q+1] {
				all = append(all, spot{c[q] + place, q})
			}
		}
	}
	return all
}

// listed: how many tables, and all of them, in whatever order they are.
func listed(l []entry) []byte {
	b := number(len(l))
	for _, x := range l {
		b = append(append(b, x.first), tabled(x.table)...)
	}
	return b
}

// told: the states, from four on, and what goes out, of bytes that are told by tables. What goes out is laid ahead at once, not turned at last.
func told(b []byte, l []entry, f [4]int) []byte {
	laid := []byte{}
	before := aheads(b)
	for _, x := range slices.Backward(spots(len(b))) {
		i := slices.IndexFunc(l, func(y entry) bool { return y.first == before[x.at] })
		start := 0
		for _, parts := range l[i].table[:b[x.at]] {
			start += parts
		}
		s, out := step(f[x.quarter], start, l[i].table[b[x.at]])
		f[x.quarter] = s
		for _, c := range out {
			laid = append([]byte{c}, laid...)
		}
	}
	return append(states(f), laid...)
}

// made: what Put makes of bytes, if the tables are theirs and the states are the least.
func made(b []byte, l []entry, f [4]int) []byte {
	return bytes.Join([][]byte{number(len(b)), listed(l), told(b, l, f)}, nil)
}

// put: what Put must make.
func put(b []byte) []byte {
	if len(b) == 0 {
		return []byte{0}
	}
	return made(b, own(b), least())
}

// samples: bytes of many sizes and kinds: such that hang on the one ahead, and such that don't; one kind alone, all kinds, some that come hardly ever.
func samples() [][]byte {
	d := dice(7)
	all := [][]byte{nil, {0}, {255}, {0, 0}, {0, 0, 0}, []byte("ab"), []byte("abracadabra, abracadabra, abracadabra")}
	for size := range 40 {
		all = append(all, d.bytes(size, 3), d.bytes(size, 256), d.walk(size, 2), bytes.Repeat([]byte{byte(size)}, size))
	}
	for _, size := range []int{100, 127, 128, 501, 4098, 5003} {
		all = append(all, d.bytes(size, 2), d.bytes(size, 20), d.walk(size, 3), bytes.Repeat([]byte{7}, size))
		rare := bytes.Repeat([]byte{0}, size)
		rare[1], rare[size/2], rare[size-1] = 1, 255, 2
		all = append(all, rare)
	}
	// Each byte behind each other one, nearly.
	every := []byte{}
	for gap := range 16 {
		for c := range 256 {
			every = append(every, byte(c*(2*gap+1)))
		}
	}
	return append(all, every)
}
