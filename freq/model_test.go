package freq_test

import (
	"math/big"
	"sort"

	"scriptorium/api"
	"scriptorium/freq"
)

// dice are numbers that look like chance and are the same at each run.
type dice uint64

func (d *dice) below(n int) int {
	*d = *d*6364136223846793005 + 1442695040888963407
	return int(uint64(*d>>33) % uint64(n))
}

// counts: of some bytes, how often each comes.
func counts(of map[byte]int) [256]int {
	var all [256]int
	for c, n := range of {
		all[c] = n
	}
	return all
}

// table: of some bytes, how many parts each has.
func table(of map[byte]int) freq.Table {
	return counts(of)
}

// every: the same number for every byte.
func every(n int) [256]int {
	var all [256]int
	for i := range all {
		all[i] = n
	}
	return all
}

// total: all numbers as one, however great they are.
func total(all [256]int) *big.Int {
	sum := new(big.Int)
	for _, n := range all {
		sum.Add(sum, big.NewInt(int64(n)))
	}
	return sum
}

// scaled: of counts that may be, the parts that the chapter gives them. What is lost is told here by the height down to which all parts are cut, not one by one.
func scaled(in [256]int) freq.Table {
	sum := total(in)
	t := freq.Table{}
	most := 0
	for c, n := range in {
		whole := new(big.Int).Mul(big.NewInt(int64(n)), big.NewInt(4096))
		t[c] = int(whole.Quo(whole, sum).Int64())
		if n > 0 && t[c] == 0 {
			t[c] = 1
		}
		if n > in[most] {
			most = c
		}
	}
	over := int(total(t).Int64()) - 4096
	if over < 0 {
		t[most] -= over
		return t
	}
	return cut(t, over)
}

// cut: so many parts lost, always by the greatest, the first of such: all above a height come down to it, and the first that reach it lose one more.
func cut(t freq.Table, over int) freq.Table {
	above := func(height int) int {
		n := 0
		for _, parts := range t {
			n += max(parts-height, 0)
		}
		return n
	}
	height := sort.Search(4097, func(height int) bool { return above(height) <= over })
	over -= above(height)
	for c := range t {
		t[c] = min(t[c], height)
		if t[c] == height && over > 0 {
			t[c]--
			over--
		}
	}
	return t
}

// spelt: numbers as chapter 2 tells them, if they are below 2^14.
func spelt(numbers ...int) []byte {
	var b []byte
	for _, n := range numbers {
		if n >= 128 {
			b = append(b, byte(128+n/256))
		}
		b = append(b, byte(n%256))
	}
	return b
}

// told: a table that may be as the chapter puts it.
func told(t freq.Table) []byte {
	var numbers []int
	many, between := 0, 0
	for _, parts := range t {
		if parts == 0 {
			between++
			continue
		}
		numbers = append(numbers, between, parts)
		many, between = many+1, 0
	}
	return append(spelt(many), spelt(numbers...)...)
}

// tables: some that Check takes: of one byte, of few, of all, at the ends and in the middle.
func tables() []freq.Table {
	all := []freq.Table{
		table(map[byte]int{0: 4096}),
		table(map[byte]int{'a': 4096}),
		table(map[byte]int{127: 4096}),
		table(map[byte]int{128: 4096}),
		table(map[byte]int{255: 4096}),
		table(map[byte]int{0: 1, 255: 4095}),
		table(map[byte]int{0: 4095, 255: 1}),
		table(map[byte]int{0: 2048, 1: 2048}),
		table(map[byte]int{1: 127, 2: 128, 254: 3841}),
		table(map[byte]int{0: 1, 128: 1, 255: 4094}),
		table(map[byte]int{0: 1, 129: 4094, 255: 1}),
		every(16),
	}
	uneven := freq.Table(every(1))
	uneven[7] = 4096 - 255
	all = append(all, uneven)
	d := dice(6)
	for many := 1; many <= 256; many += 15 {
		t := freq.Table{}
		for range many {
			t[d.below(256)] = 1
		}
		left := 4096 - int(total(t).Int64())
		for left > 0 {
			if c := d.below(256); t[c] > 0 {
				n := 1 + d.below(left)
				t[c] += n
				left -= n
			}
		}
		all = append(all, t)
	}
	return all
}

// refused: tables that Check doesn't take, and what it says of them.
func refused() []struct {
	t    freq.Table
	want api.Errno
} {
	late := freq.Table(every(4096))
	late[255] = -1
	return []struct {
		t    freq.Table
		want api.Errno
	}{
		{freq.Table{}, api.ErrSum},
		{table(map[byte]int{9: 1}), api.ErrSum},
		{table(map[byte]int{9: 4095}), api.ErrSum},
		{table(map[byte]int{0: 4095, 255: 2}), api.ErrSum},
		{table(map[byte]int{0: 4096, 255: 1}), api.ErrSum},
		{every(15), api.ErrSum},
		{every(4096), api.ErrSum},
		{table(map[byte]int{9: 4097}), api.ErrRange},
		{table(map[byte]int{9: -1}), api.ErrRange},
		{table(map[byte]int{3: -1, 9: 4096, 10: 1}), api.ErrRange},
		{table(map[byte]int{3: -1, 9: 4097}), api.ErrRange},
		{table(map[byte]int{0: 4097, 255: -1}), api.ErrRange},
		{table(map[byte]int{0: 4096 + 1<<32}), api.ErrRange},
		{table(map[byte]int{0: 1<<63 - 1, 1: 1<<63 - 1, 2: 4098}), api.ErrRange},
		{table(map[byte]int{0: -1 << 63, 1: -1 << 63, 2: 4096}), api.ErrRange},
		{late, api.ErrRange},
	}
}
