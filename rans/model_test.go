package rans_test

import (
	"bytes"

	"scriptorium/freq"
	"scriptorium/itf"
	"scriptorium/rans"
)

// dice are numbers that look like chance and are the same at each run.
type dice uint64

func (d *dice) below(n int) int {
	*d = *d*6364136223846793005 + 1442695040888963407
	return int(uint64(*d>>33) % uint64(n))
}

// bytes: so many of so many kinds, the lower ones the commoner.
func (d *dice) bytes(size, kinds int) []byte {
	b := make([]byte, size)
	for i := range b {
		b[i] = byte(d.below(1 + d.below(kinds)))
	}
	return b
}

// step: a state that may be, behind a byte's parts, and what goes out. How many bytes go is told here by division alone, not one by one.
func step(s, start, parts int) (int, []byte) {
	out := []byte{}
	for divisor := 1; s/divisor >= parts<<19; divisor *= 256 {
		out = append(out, byte(s/divisor%256))
	}
	for range out {
		s /= 256
	}
	return 4096*(s/parts) + s%parts + start, out
}

// states: four words.
func states(f [4]int) []byte {
	b := []byte{}
	for _, s := range f {
		b = append(b, byte(s), byte(s>>8), byte(s>>16), byte(s>>24))
	}
	return b
}

// number: as chapter 2 puts it.
func number(n int) []byte {
	w := &itf.Writer{}
	w.Int(uint32(n))
	return w.Bytes()
}

// tabled: a table as chapter 6 puts it.
func tabled(t freq.Table) []byte {
	w := &itf.Writer{}
	t.Put(w)
	return w.Bytes()
}

// least: the states that Put begins with.
func least() [4]int {
	return [4]int{8388608, 8388608, 8388608, 8388608}
}

// made: bytes, told by a table, from four states on: what Put makes, if the table is theirs and the states are the least. What goes out is laid ahead at once, not turned at last.
func made(b []byte, t freq.Table, f [4]int) []byte {
	laid := []byte{}
	for left := len(b); left > 0; left-- {
		i := left - 1
		start := 0
		for _, parts := range t[:b[i]] {
			start += parts
		}
		s, out := step(f[i%4], start, t[b[i]])
		f[i%4] = s
		for _, c := range out {
			laid = append([]byte{c}, laid...)
		}
	}
	return bytes.Join([][]byte{number(len(b)), tabled(t), states(f), laid}, nil)
}

// put: what Put must make.
func put(b []byte) []byte {
	t, ok := freq.Of(b)
	if !ok {
		return []byte{0}
	}
	return made(b, t, least())
}

// samples: bytes of many sizes and kinds: even, uneven, one kind alone, all kinds, some that come hardly ever.
func samples() [][]byte {
	d := dice(7)
	all := [][]byte{nil, {0}, {255}, []byte("ab"), []byte("abcde"), []byte("abracadabra, abracadabra, abracadabra")}
	for size := range 40 {
		all = append(all, d.bytes(size, 3), d.bytes(size, 256), bytes.Repeat([]byte{byte(size)}, size))
	}
	for _, size := range []int{100, 127, 128, 500, 4096, 5001} {
		all = append(all, d.bytes(size, 2), d.bytes(size, 20), d.bytes(size, 256), bytes.Repeat([]byte{7}, size))
		rare := bytes.Repeat([]byte{0}, size)
		rare[0], rare[size/2], rare[size-1] = 1, 255, 2
		all = append(all, rare)
	}
	every := make([]byte, 0, 1024)
	for i := range cap(every) {
		every = append(every, byte(i*37))
	}
	return append(all, every)
}

// within: states that may be, at the ends and in the middle.
func within() []int {
	all := []int{1 << 23, 1<<23 + 1, 1<<24 - 1, 1 << 24, 1 << 27, 1<<27 - 1, 1 << 30, 1<<30 - 1, 1<<31 - 2, 1<<31 - 1}
	d := dice(8)
	for bit := 23; bit < 31; bit++ {
		for range 8 {
			all = append(all, 1<<bit+d.below(1<<bit))
		}
	}
	return all
}

// span: where some parts begin, and how many they are.
type span struct{ start, parts int }

// spans: that may be, at the ends and in the middle.
func spans() []span {
	all := []span{}
	for _, parts := range []int{1, 2, 3, 15, 16, 17, 255, 256, 257, 1000, 2047, 2048, 2049, 4080, 4095, 4096} {
		for _, start := range []int{0, 1, (4096 - parts) / 2, 4095 - parts, 4096 - parts} {
			if start >= 0 && start+parts <= 4096 {
				all = append(all, span{start, parts})
			}
		}
	}
	return all
}

// four: as the package has them.
func four(f [4]int) rans.Four {
	return rans.Four{rans.State(f[0]), rans.State(f[1]), rans.State(f[2]), rans.State(f[3])}
}
