package bits_test

import (
	"fmt"
	"math"
	"testing"

	"scriptorium/api"
	"scriptorium/bits"
)

// says: what a reader must say of itself.
func says(t *testing.T, what string, r *bits.Reader, ended bool, end api.Errno) {
	t.Helper()
	// Twice, since asking must change nothing.
	for range 2 {
		if r.Ended() != ended || r.End() != end {
			t.Errorf("%s: ended %v, End %d; want %v, %d", what, r.Ended(), int(r.End()), ended, int(end))
		}
	}
}

// over: it has ended for good, and answers nothing.
func over(t *testing.T, what string, r *bits.Reader) {
	t.Helper()
	says(t, what, r, true, api.ErrShort)
	for _, size := range sizes {
		if n := r.Take(size.asked); n != 0 {
			t.Errorf("%s: Take(%d) is %d behind the end", what, size.asked, n)
		}
	}
	r.Fail()
	says(t, what+", afterwards", r, true, api.ErrShort)
}

// TestTakeByItsBorders: P3.2.
func TestTakeByItsBorders(t *testing.T) {
	in := []byte("\x92\x34\x56\x78\x9a\xbc")
	for _, c := range []struct {
		size int
		want uint32
	}{
		{0, 0}, {1, 1}, {2, 2}, {3, 4}, {4, 9}, {7, 0x49}, {8, 0x92}, {9, 0x124},
		{16, 0x9234}, {24, 0x923456}, {31, 0x491a2b3c}, {32, 0x92345678},
		{33, 0x92345678}, {48, 0x92345678}, {49, 0x92345678}, {1<<32 + 1, 0x92345678}, {math.MaxInt, 0x92345678},
		{-1, 0}, {1 - 1<<32, 0}, {math.MinInt, 0},
	} {
		r := bits.Read(in)
		if got := r.Take(c.size); got != c.want {
			t.Errorf("Take(%d) is %#x, want %#x", c.size, got, c.want)
		}
		says(t, "taken", r, false, api.ErrRest)
	}
}

// TestTakeGoesOn: P3.2; the next bits are those behind the ones that were taken.
func TestTakeGoesOn(t *testing.T) {
	r := bits.Read([]byte("\xa0\x9f\xff\xff\xff\xe0"))
	for _, c := range []struct {
		size int
		want uint32
	}{{3, 5}, {6, 1}, {0, 0}, {-5, 0}, {2, 0}, {40, math.MaxUint32}} {
		if got := r.Take(c.size); got != c.want {
			t.Errorf("Take(%d) is %#x, want %#x", c.size, got, c.want)
		}
	}
	says(t, "five noughts left", r, false, api.OK)
	if r.Take(5) != 0 {
		t.Error("the last noughts")
	}
	says(t, "none left", r, false, api.OK)
	if r.Take(0) != 0 {
		t.Error("no bits of none")
	}
	says(t, "no bits of none", r, false, api.OK)
	r.Take(1)
	over(t, "one bit of none", r)
}

// TestTakeOfEachPiece: P3.2, from each place and of each size.
func TestTakeOfEachPiece(t *testing.T) {
	in := []byte("\x92\x34\x00\xff\x9a\xbc\x01\x80\xfe")
	row := unpacked(in)
	for from := range len(row) + 1 {
		for _, size := range sizes {
			r, p := bits.Read(in), plain{rest: row}
			for left := from; left > 0; left -= 32 {
				r.Take(min(left, 32))
				p.take(min(left, 32))
			}
			if got, want := r.Take(size.asked), p.take(size.meant); got != want {
				t.Errorf("Take(%d) from bit %d is %#x, want %#x", size.asked, from, got, want)
			}
			says(t, "a piece", r, p.ended, p.end())
		}
	}
}

// TestTakeOfTooFewEnds: P3.2; then nothing more is taken, not even what is there.
func TestTakeOfTooFewEnds(t *testing.T) {
	for _, c := range []struct {
		in    string
		first int
		then  int
	}{
		{"", 0, 1}, {"", 0, 32}, {"", 0, math.MaxInt},
		{"\xff", 0, 9}, {"\xff", 0, 32}, {"\xff", 1, 8}, {"\xff", 7, 2}, {"\xff", 8, 1},
		{"\x00", 0, 9}, {"\x00", 8, 1},
		{"\xff\xff\xff", 0, 25}, {"\xff\xff\xff\xff", 1, 32}, {"\xff\xff\xff\xff", 1, 1 << 40}, {"\xff\xff\xff\xff", 32, 1},
	} {
		r := bits.Read([]byte(c.in))
		r.Take(c.first)
		if r.Ended() {
			t.Errorf("%x: Take(%d) ended it", c.in, c.first)
		}
		if n := r.Take(c.then); n != 0 {
			t.Errorf("%x: Take(%d) behind Take(%d) is %d", c.in, c.then, c.first, n)
		}
		over(t, fmt.Sprintf("%x", c.in), r)
	}
}

// TestFailEnds: P3.2, wherever it stands, and though bits are left.
func TestFailEnds(t *testing.T) {
	for _, in := range []string{"", "\x00", "\xff", "abcdefgh"} {
		r := bits.Read([]byte(in))
		r.Fail()
		over(t, "Fail", r)
		r = bits.Read([]byte(in))
		r.Take(min(3, len(in)))
		r.Fail()
		over(t, "Fail behind Take", r)
	}
}

// TestEndTellsTheRest: P3.2; all that may be left are noughts, fewer than eight.
func TestEndTellsTheRest(t *testing.T) {
	for _, c := range []struct {
		in    string
		taken []int
		want  api.Errno
	}{
		{"", nil, api.OK},
		{"\x00", nil, api.ErrRest},
		{"\x00", []int{0}, api.ErrRest},
		{"\x00", []int{1}, api.OK},
		{"\x00", []int{8}, api.OK},
		{"\x80", []int{1}, api.OK},
		{"\xff", []int{8}, api.OK},
		{"\xff", []int{7}, api.ErrRest},
		{"\x01", []int{1}, api.ErrRest},
		{"\x01", []int{7}, api.ErrRest},
		{"\x40", []int{1}, api.ErrRest},
		{"\x40", []int{2}, api.OK},
		{"\x00\x00", []int{8}, api.ErrRest},
		{"\x00\x00", []int{7}, api.ErrRest},
		{"\x00\x00", []int{9}, api.OK},
		{"\xff\x00", []int{8}, api.ErrRest},
		{"\x00\x01", []int{9}, api.ErrRest},
		{"\x00\x00\x00\x00", []int{32}, api.OK},
		{"\x00\x00\x00\x00\x00", []int{32}, api.ErrRest},
		{"\x00\x00\x00\x00\x00", []int{32, 1}, api.OK},
		{"\x00\x00\x00\x00\x00\x00\x00\x00\x00\x00", nil, api.ErrRest},
	} {
		r := bits.Read([]byte(c.in))
		for _, size := range c.taken {
			r.Take(size)
		}
		says(t, fmt.Sprintf("%x behind %d", c.in, c.taken), r, false, c.want)
	}
}

// TestEndKeepsNothing: P3.2; it only looks.
func TestEndKeepsNothing(t *testing.T) {
	r := bits.Read([]byte("\xa5\x00"))
	says(t, "all left", r, false, api.ErrRest)
	if r.Take(8) != 0xa5 {
		t.Error("End took bits")
	}
	says(t, "a byte left", r, false, api.ErrRest)
	if r.Take(8) != 0 || r.End() != api.OK {
		t.Error("ErrRest was kept")
	}
}

// follow makes each row of so many more calls, on copies of both readers.
func follow(t *testing.T, r bits.Reader, p plain, depth int, path string) {
	for _, size := range []int{0, 1, 3, 7, 8, 9, 13, 32} {
		r1, p1 := r, p
		if got, want := r1.Take(size), p1.take(size); got != want || r1.Ended() != p1.ended || r1.End() != p1.end() {
			t.Fatalf("%s %d: %d, ended %v, End %d; want %d, %v, %d", path, size, got, r1.Ended(), int(r1.End()), want, p1.ended, int(p1.end()))
		}
		if depth > 1 {
			follow(t, r1, p1, depth-1, fmt.Sprintf("%s %d", path, size))
		}
	}
	r.Fail()
	if !r.Ended() || r.End() != api.ErrShort || r.Take(1) != 0 {
		t.Fatalf("%s: Fail", path)
	}
}

// TestEveryRowOfCalls: P1 (none panics) and P3.2, of short rows of calls on bytes of many kinds.
func TestEveryRowOfCalls(t *testing.T) {
	for c := range 256 {
		for size := range 6 {
			in := []byte{byte(c), 0, byte(c), 0xff, byte(^c)}[:size]
			follow(t, *bits.Read(in), plain{rest: unpacked(in)}, 3, fmt.Sprintf("%x:", in))
		}
	}
}

// TestWhatIsPutIsTaken: P3.1 and P3.2 together.
func TestWhatIsPutIsTaken(t *testing.T) {
	w := &bits.Writer{}
	for _, n := range numbers() {
		for size := range 33 {
			w.Put(n, size)
			w.Put(^n, 1)
		}
	}
	r := bits.Read(w.Bytes())
	for _, n := range numbers() {
		for size := range 33 {
			if got := r.Take(size); got != number(text(n, size)) {
				t.Fatalf("%d bits of %#x are taken as %#x", size, n, got)
			}
			if r.Take(1) != ^n&1 {
				t.Fatalf("the bit behind %d bits of %#x", size, n)
			}
		}
	}
	says(t, "all taken", r, false, api.OK)
}

// TestManyBits: P1; many of them, one by one and many at once.
func TestManyBits(t *testing.T) {
	const many = 8 * api.MaxBytes
	w := &bits.Writer{}
	for i := range many {
		w.Put(uint32(i*i>>5), 1)
	}
	all := w.Bytes()
	if w.Len() != many || len(all) != api.MaxBytes {
		t.Fatalf("%d bits, %d bytes", w.Len(), len(all))
	}
	ones, words := bits.Read(all), bits.Read(all)
	for at := 0; at < many; at += 32 {
		n := uint32(0)
		for i := range 32 {
			bit := ones.Take(1)
			if bit != uint32((at+i)*(at+i)>>5)&1 {
				t.Fatalf("bit %d is %d", at+i, bit)
			}
			n = n<<1 | bit
		}
		if got := words.Take(32); got != n {
			t.Fatalf("at bit %d: %#x, want %#x", at, got, n)
		}
	}
	says(t, "one by one", ones, false, api.OK)
	says(t, "many at once", words, false, api.OK)
}
