package crc_test

import (
	"hash/crc32"
	"math/rand"
)

// plainSum is a sum bit by bit, without a table: bits go out, the lowest of each byte first.
func plainSum(b []byte) uint32 {
	n := uint32(0xffffffff)
	for _, c := range b {
		for bit := range 8 {
			differs := n&1 != uint32(c>>bit&1)
			n /= 2
			if differs {
				n ^= 0xedb88320
			}
		}
	}
	return 0xffffffff - n
}

// libraryTable is the library's own table of the same sum.
func libraryTable() *crc32.Table {
	return crc32.MakeTable(crc32.IEEE)
}

// withSum: bytes and a sum behind them, the lowest byte first.
func withSum(b []byte, sum uint32) []byte {
	return append(append([]byte{}, b...), byte(sum%256), byte(sum/256%256), byte(sum/65536%256), byte(sum/16777216))
}

// samples: each byte alone, rows of one byte, and rows of many kinds and lengths; the same at each run.
func samples() [][]byte {
	all := [][]byte{nil, {}, []byte("123456789"), []byte("a"), []byte("abc")}
	for c := range 256 {
		all = append(all, []byte{byte(c)}, []byte{byte(c), byte(c), byte(c), byte(c), byte(c)})
	}
	draw := rand.New(rand.NewSource(4))
	for length := range 300 {
		b := make([]byte, length)
		draw.Read(b)
		all = append(all, make([]byte, length), b)
	}
	return append(all, make([]byte, 1<<16))
}
