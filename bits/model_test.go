package bits_test

import (
	"fmt"
	"math"
	"strconv"
	"strings"

	"scriptorium/api"
)

// sizes: how many bits may be asked for, and what is meant by it.
var sizes = []struct{ asked, meant int }{
	{0, 0}, {1, 1}, {2, 2}, {7, 7}, {8, 8}, {9, 9}, {15, 15}, {16, 16}, {17, 17}, {31, 31}, {32, 32},
	{33, 32}, {64, 32}, {1 << 32, 32}, {1<<32 + 1, 32}, {math.MaxInt, 32},
	{-1, 0}, {-8, 0}, {-1 << 32, 0}, {1 - 1<<32, 0}, {math.MinInt, 0},
}

// numbers: those with few ones, few noughts, and some of neither.
func numbers() []uint32 {
	ns := []uint32{0, math.MaxUint32, 0x55555555, 0xaaaaaaaa, 0x12345678, 0xdeadbeef}
	for i := range 32 {
		ns = append(ns, 1<<i, 1<<i-1, ^(uint32(1) << i))
	}
	return ns
}

// text: a number's lowest bits, as noughts and ones.
func text(n uint32, size int) string {
	return fmt.Sprintf("%032b", n)[32-size:]
}

// packed: noughts and ones as bytes, the first being the highest, noughts behind.
func packed(text string) []byte {
	text += strings.Repeat("0", (8-len(text)%8)%8)
	var b []byte
	for at := 0; at < len(text); at += 8 {
		b = append(b, byte(number(text[at:at+8])))
	}
	return b
}

// unpacked: bytes as noughts and ones.
func unpacked(b []byte) string {
	var s strings.Builder
	for _, c := range b {
		fmt.Fprintf(&s, "%08b", c)
	}
	return s.String()
}

// number: noughts and ones as a number; of none 0.
func number(text string) uint32 {
	n, _ := strconv.ParseUint("0"+text, 2, 32)
	return uint32(n)
}

// plain is a reader told as simply as the chapter tells it: what a Reader is held against.
type plain struct {
	rest  string
	ended bool
}

func (p *plain) take(size int) uint32 {
	if p.ended || size > len(p.rest) {
		p.ended = true
		return 0
	}
	n := number(p.rest[:size])
	p.rest = p.rest[size:]
	return n
}

func (p *plain) end() api.Errno {
	switch {
	case p.ended:
		return api.ErrShort
	case len(p.rest) >= 8 || strings.Contains(p.rest, "1"):
		return api.ErrRest
	}
	return api.OK
}
