package itf_test

import (
	"fmt"
	"strconv"
	"strings"

	"scriptorium/api"
)

// spelt: a number as the chapter tells it, as a text of bits: ones, a nought, the number's bits; so many bytes behind the first.
// It is not held to be the shortest, so that longer ones can be spelt, too.
func spelt(n uint64, follow, nought int) []byte {
	room := 8*(follow+1) - follow - nought
	text := strings.Repeat("1", follow) + strings.Repeat("0", nought) + fmt.Sprintf("%0*b", room, n)
	return packed(text)
}

// speltLong: of 64 bits; eight more bytes leave no room for a nought.
func speltLong(n uint64, follow int) []byte {
	if follow == 8 {
		return spelt(n, follow, 0)
	}
	return spelt(n, follow, 1)
}

// speltInt: of 32 bits; of five bytes the last has the lowest four bits alone.
func speltInt(n uint64, follow int) []byte {
	if follow < 4 {
		return spelt(n, follow, 1)
	}
	text := fmt.Sprintf("%032b", n)
	return packed("1111" + text[:28] + "0000" + text[28:])
}

func packed(text string) []byte {
	var b []byte
	for ; text != ""; text = text[8:] {
		c, err := strconv.ParseUint(text[:8], 2, 8)
		if err != nil {
			panic(err)
		}
		b = append(b, byte(c))
	}
	return b
}

// needInt, needLong: how many bytes a number needs behind its first one, by the chapter's own borders.
func needInt(n uint64) int {
	for i, border := range []uint64{1 << 7, 1 << 14, 1 << 21, 1 << 28} {
		if n < border {
			return i
		}
	}
	return 4
}

func needLong(n uint64) int {
	for i := range 8 {
		if n>>(7*(i+1)) == 0 {
			return i
		}
	}
	return 8
}

// answer is what a reader must say behind one call.
type answer struct {
	n   uint64
	at  int
	err api.Errno
}

// toldInt, toldLong: what taking one number from the bytes must answer, by their bits as a text.
func toldInt(in []byte) answer {
	text, a := taken(in, 4)
	if a.err != api.OK {
		return a
	}
	if a.at == 5 {
		if in[4] > 15 {
			return answer{0, 5, api.ErrForm}
		}
		text = text[:28] + text[32:]
	}
	return needed(text, a, needInt)
}

func toldLong(in []byte) answer {
	text, a := taken(in, 8)
	if a.err != api.OK {
		return a
	}
	return needed(text, a, needLong)
}

// taken: the bits behind the ones (and the nought, which adds nothing), if all bytes are there.
func taken(in []byte, most int) (string, answer) {
	if len(in) == 0 {
		return "", answer{0, 0, api.ErrShort}
	}
	first := fmt.Sprintf("%08b", in[0])
	ones := min(len(first)-len(strings.TrimLeft(first, "1")), most)
	if len(in) < 1+ones {
		return "", answer{0, len(in), api.ErrShort}
	}
	text := first[ones:]
	for _, c := range in[1 : 1+ones] {
		text += fmt.Sprintf("%08b", c)
	}
	return text, answer{0, 1 + ones, api.OK}
}

func needed(text string, a answer, need func(uint64) int) answer {
	n, err := strconv.ParseUint(text, 2, 64)
	if err != nil {
		panic(err)
	}
	if need(n)+1 < a.at {
		return answer{0, a.at, api.ErrForm}
	}
	return answer{n, a.at, api.OK}
}

// samples: numbers about each power of two, and some whose bits tell where each has gone; below the limit.
func samples(limit uint64) []uint64 {
	var ns []uint64
	for n := range uint64(1 << 10) {
		ns = append(ns, n)
	}
	for i := range 64 {
		for d := range uint64(5) {
			ns = append(ns, 1<<i+d-2)
		}
		ns = append(ns, 0x123456789abcdef0>>i, 0xfedcba9876543210>>i, 0xaaaaaaaaaaaaaaaa>>i)
	}
	var out []uint64
	for _, n := range ns {
		if n <= limit {
			out = append(out, n)
		}
	}
	return out
}
