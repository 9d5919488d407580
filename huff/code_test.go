package huff_test

import (
	"fmt"
	"math"
	"slices"
	"strings"
	"testing"

	"scriptorium/api"
	"scriptorium/bits"
	"scriptorium/huff"
)

// entries: of sizes, for numbers that rise, some of them below 0.
func entries(sizes ...int) []huff.Entry {
	var l []huff.Entry
	for i, size := range sizes {
		l = append(l, huff.Entry{Symbol: 5*i - 7, Size: size})
	}
	return l
}

// code: a code that must be.
func code(t *testing.T, l []huff.Entry) *huff.Code {
	t.Helper()
	c, e := huff.New(l)
	if e != api.OK || c == nil {
		t.Fatalf("no code of %v: %d", l, int(e))
	}
	return c
}

// has holds a code against the words that it should have.
func has(t *testing.T, c *huff.Code, all map[int]string) {
	t.Helper()
	text := ""
	w := &bits.Writer{}
	var numbers []int
	for n, word := range all {
		size, ok := c.Size(n)
		if !ok || size != len(word) {
			t.Fatalf("%v: %d has %d bits, %v", all, n, size, ok)
		}
		alone := &bits.Writer{}
		if !c.Put(alone, n) || !c.Put(w, n) || alone.Len() != len(word) || string(alone.Bytes()) != string(packed(word)) {
			t.Fatalf("%v: %d is put as %x, %d bits", all, n, alone.Bytes(), alone.Len())
		}
		text += word
		numbers = append(numbers, n)
	}
	if w.Len() != len(text) || string(w.Bytes()) != string(packed(text)) {
		t.Fatalf("%v: put as %x", all, w.Bytes())
	}
	r := bits.Read(w.Bytes())
	for _, n := range numbers {
		if got := c.Take(r); got != n {
			t.Fatalf("%v: %d is taken as %d", all, n, got)
		}
	}
	if e := r.End(); e != api.OK {
		t.Fatalf("%v: behind the words: %d", all, int(e))
	}
}

// TestWordsExamples: words, written out.
func TestWordsExamples(t *testing.T) {
	for _, c := range []struct {
		l    []huff.Entry
		want map[int]string
	}{
		{entries(0), map[int]string{-7: ""}},
		{entries(1), map[int]string{-7: "0"}},
		{entries(20), map[int]string{-7: strings.Repeat("0", 20)}},
		{entries(1, 2, 2), map[int]string{-7: "0", -2: "10", 3: "11"}},
		{entries(2, 1, 2), map[int]string{-7: "10", -2: "0", 3: "11"}},
		{entries(2, 2, 1), map[int]string{-7: "10", -2: "11", 3: "0"}},
		{entries(3, 1, 3), map[int]string{-7: "100", -2: "0", 3: "101"}},
		{entries(4, 4, 2, 3), map[int]string{-7: "0110", -2: "0111", 3: "00", 8: "010"}},
		{entries(1, 20), map[int]string{-7: "0", -2: "1" + strings.Repeat("0", 19)}},
		{entries(20, 20, 1), map[int]string{-7: "1" + strings.Repeat("0", 19), -2: "1" + strings.Repeat("0", 18) + "1", 3: "0"}},
	} {
		has(t, code(t, c.l), c.want)
	}
}

// each calls with all lists of up to so many sizes.
func each(sizes []int, most int, f func(l []int)) {
	var all func(l []int)
	all = func(l []int) {
		if len(l) > 0 {
			f(l)
		}
		if len(l) < most {
			for _, size := range sizes {
				all(append(slices.Clip(l), size))
			}
		}
	}
	all(nil)
}

// TestWordsAsTheModelHasThem: all short lists of sizes, those whose words don't fit, too.
func TestWordsAsTheModelHasThem(t *testing.T) {
	fit, not := 0, 0
	each([]int{1, 2, 3, 4, 19, 20}, 6, func(sizes []int) {
		l := entries(sizes...)
		want := words(l)
		if want != nil {
			fit++
			has(t, code(t, l), want)
			return
		}
		not++
		if c, e := huff.New(l); e != api.ErrCode || c != nil {
			t.Errorf("%v: %v, error %d", l, c, int(e))
		}
	})
	if fit < 1000 || not < 1000 {
		t.Errorf("%d fit, %d don't", fit, not)
	}
}

// TestWordsOfManyNumbers: as many as may be, whose words just fit, or one doesn't.
func TestWordsOfManyNumbers(t *testing.T) {
	full := slices.Repeat([]int{8}, 256)
	has(t, code(t, entries(full...)), words(entries(full...)))
	for _, i := range []int{0, 100, 255} {
		sizes := slices.Clone(full)
		sizes[i] = 7
		if c, e := huff.New(entries(sizes...)); e != api.ErrCode || c != nil {
			t.Errorf("one too many: %d", int(e))
		}
		sizes[i] = 20
		has(t, code(t, entries(sizes...)), words(entries(sizes...)))
	}
	longest := slices.Repeat([]int{20}, 256)
	has(t, code(t, entries(longest...)), words(entries(longest...)))
	var steps []int
	for size := 1; size <= 20; size++ {
		steps = append(steps, size)
	}
	has(t, code(t, entries(steps...)), words(entries(steps...)))
	has(t, code(t, entries(append(steps, 20)...)), words(entries(append(steps, 20)...)))
	if c, e := huff.New(entries(append(steps, 20, 20)...)); e != api.ErrCode || c != nil {
		t.Errorf("the last word is there twice: %d", int(e))
	}
}

// TestWordsOfSizes: what Sizes answers, there and back.
func TestWordsOfSizes(t *testing.T) {
	d := dice(3)
	for range 60 {
		counts := make([]int, 1+d.below(256))
		for i := range counts {
			counts[i] = 1 + d.below(1+d.below(5000))
		}
		l, e := huff.Sizes(mapOf(counts))
		if e != api.OK {
			t.Fatal(int(e))
		}
		has(t, code(t, l), words(l))
	}
}

// TestNewErrors: each one's border, and which comes first: entry by entry.
func TestNewErrors(t *testing.T) {
	bad := huff.Entry{Symbol: api.MaxInt + 1, Size: 21}
	for _, c := range []struct {
		what string
		l    []huff.Entry
		want api.Errno
	}{
		{"nil", nil, api.ErrMany},
		{"none", []huff.Entry{}, api.ErrMany},
		{"256", entries(slices.Repeat([]int{9}, 256)...), api.OK},
		{"257", entries(slices.Repeat([]int{9}, 257)...), api.ErrMany},
		{"257, wrong ones", slices.Repeat([]huff.Entry{bad}, 257), api.ErrMany},
		{"number MaxInt", []huff.Entry{{api.MaxInt, 3}}, api.OK},
		{"number above MaxInt", []huff.Entry{{api.MaxInt + 1, 3}}, api.ErrRange},
		{"number of 64 bits", []huff.Entry{{math.MaxInt, 3}}, api.ErrRange},
		{"number -MaxInt", []huff.Entry{{-api.MaxInt, 3}}, api.OK},
		{"number below -MaxInt", []huff.Entry{{-api.MaxInt - 1, 3}}, api.ErrRange},
		{"number MinInt", []huff.Entry{{math.MinInt, 3}}, api.ErrRange},
		{"number 2^32", []huff.Entry{{1, 1}, {1 << 32, 1}}, api.ErrRange},
		{"size 0 alone", []huff.Entry{{1, 0}}, api.OK},
		{"size -1", []huff.Entry{{1, -1}}, api.ErrRange},
		{"size MinInt", []huff.Entry{{1, math.MinInt}}, api.ErrRange},
		{"size 20", []huff.Entry{{1, 20}}, api.OK},
		{"size 21", []huff.Entry{{1, 21}}, api.ErrRange},
		{"size of 64 bits", []huff.Entry{{1, math.MaxInt}}, api.ErrRange},
		{"the last one's size", []huff.Entry{{1, 1}, {2, 2}, {3, 21}}, api.ErrRange},
		{"size 0 first", []huff.Entry{{1, 0}, {2, 1}}, api.ErrCode},
		{"size 0 last", []huff.Entry{{1, 1}, {2, 0}}, api.ErrCode},
		{"size 0 twice", []huff.Entry{{1, 0}, {2, 0}}, api.ErrCode},
		{"the same number", []huff.Entry{{1, 1}, {1, 1}}, api.ErrOrder},
		{"numbers fall", []huff.Entry{{2, 1}, {1, 1}}, api.ErrOrder},
		{"the last number falls", []huff.Entry{{-9, 2}, {1, 2}, {2, 2}, {-2, 2}}, api.ErrOrder},
		{"words don't fit", []huff.Entry{{1, 1}, {2, 1}, {3, 20}}, api.ErrCode},
		{"range ahead of size 0", []huff.Entry{{api.MaxInt + 1, 0}, {2, 1}}, api.ErrRange},
		{"range ahead of order", []huff.Entry{{1, 1}, {-api.MaxInt - 1, 1}}, api.ErrRange},
		{"size 0 ahead of order", []huff.Entry{{1, 1}, {1, 0}}, api.ErrCode},
		{"an entry's size 0 ahead of the next one's range", []huff.Entry{{1, 0}, {2, 21}}, api.ErrCode},
		{"an entry's range ahead of the next one's size 0", []huff.Entry{{1, 21}, {2, 0}}, api.ErrRange},
		{"an entry's order ahead of the next one's range", []huff.Entry{{1, 1}, {1, 1}, {2, 21}}, api.ErrOrder},
		{"an entry's order ahead of the next one's size 0", []huff.Entry{{1, 1}, {0, 1}, {2, 0}}, api.ErrOrder},
		{"order ahead of fit", []huff.Entry{{1, 1}, {2, 1}, {3, 1}, {3, 1}}, api.ErrOrder},
		{"range ahead of fit", []huff.Entry{{1, 1}, {2, 1}, {3, 1}, {4, 21}}, api.ErrRange},
	} {
		x, e := huff.New(c.l)
		if e != c.want || (x == nil) != (e != api.OK) {
			t.Errorf("%s: error %d, not %d; %v", c.what, int(e), int(c.want), x)
		}
	}
}

// TestNumbersWithoutWord: neither a size nor a word, and the writer stays as it is.
func TestNumbersWithoutWord(t *testing.T) {
	for _, l := range [][]huff.Entry{entries(0), entries(1, 2, 3), entries(slices.Repeat([]int{8}, 256)...)} {
		c := code(t, l)
		for _, n := range []int{-8, -6, -1, 0, 1, 4, 5*256 - 7, 1<<32 - 7, math.MaxInt, math.MinInt} {
			if size, ok := c.Size(n); size != 0 || ok {
				t.Errorf("%d has %d bits, %v", n, size, ok)
			}
			w := &bits.Writer{}
			w.Put(5, 3)
			if c.Put(w, n) || w.Len() != 3 || string(w.Bytes()) != "\xa0" {
				t.Errorf("%d is put: %x", n, w.Bytes())
			}
		}
	}
}

// over asks whether a reader has ended for good, and every code answers 0 of it.
func over(t *testing.T, what string, r *bits.Reader, c *huff.Code) {
	t.Helper()
	none := code(t, entries(0))
	for range 2 {
		if !r.Ended() || r.End() != api.ErrShort || c.Take(r) != 0 || none.Take(r) != 0 {
			t.Errorf("%s: the reader goes on", what)
		}
	}
}

// TestTakeAnyBits: all rows of bits, up to two bytes: words are taken as long as there are any; then the reader has ended.
func TestTakeAnyBits(t *testing.T) {
	for _, l := range [][]huff.Entry{entries(1), entries(3), entries(1, 3, 3), entries(4, 4, 2, 3), entries(1, 2, 2), entries(16, 2), entries(20, 9), entries(20)} {
		c, all := code(t, l), words(l)
		for n := range 1 << 9 {
			b := []byte{byte(n << 3), byte(n >> 1)}[:1+n%2]
			text := ""
			for _, x := range b {
				text += fmt.Sprintf("%08b", x)
			}
			r := bits.Read(b)
			for !r.Ended() {
				want, ok := whose(text, all)
				if got := c.Take(r); got != want || r.Ended() == ok {
					t.Fatalf("%v, bits %s: %d, not %d; ended %v", l, text, got, want, r.Ended())
				}
				text = text[len(all[want]):]
			}
			over(t, fmt.Sprintf("%v, bytes %x", l, b), r, c)
		}
	}
}

// TestTakeEndsBehindTwentyBits: bits that begin no word, however many come.
func TestTakeEndsBehindTwentyBits(t *testing.T) {
	c := code(t, entries(20, 1))
	for _, b := range []string{"\xff\xff\xff\xff\xff\xff", "\x80\x00\x10\x00\x00", "\x80\x00\x10", "\xc0\x00\x00\x00", "\x80\x00", ""} {
		r := bits.Read([]byte(b))
		if n := c.Take(r); n != 0 {
			t.Errorf("%x: %d is taken", b, n)
		}
		over(t, fmt.Sprintf("%x", b), r, c)
	}
	r := bits.Read([]byte("\x80\x00\x00"))
	if c.Take(r) != -7 || c.Take(r) != -2 || r.Ended() {
		t.Error("a word of 20 bits")
	}
}

// TestTakeOfNoBits: a word without bits is always there, until the reader has ended.
func TestTakeOfNoBits(t *testing.T) {
	c := code(t, entries(0))
	for _, b := range []string{"", "\x00", "\xff"} {
		r := bits.Read([]byte(b))
		for range 100 {
			if c.Take(r) != -7 || r.Ended() {
				t.Fatal("a word without bits isn't there")
			}
		}
		if n := r.Take(8 * len(b)); n != uint32(len(b))*uint32([]byte(b + "\x00")[0]) {
			t.Errorf("bits were taken: %d", n)
		}
		r.Fail()
		over(t, "failed", r, c)
	}
}

// TestTakeLeavesTheRest: other bits ahead of words, between them and behind.
func TestTakeLeavesTheRest(t *testing.T) {
	c := code(t, entries(4, 4, 2, 3))
	w := &bits.Writer{}
	w.Put(5, 3)
	c.Put(w, -2)
	w.Put(1, 9)
	c.Put(w, 3)
	c.Put(w, 8)
	w.Put(6, 3)
	r := bits.Read(w.Bytes())
	if r.Take(3) != 5 || c.Take(r) != -2 || r.Take(9) != 1 || c.Take(r) != 3 || c.Take(r) != 8 || r.Take(3) != 6 || r.End() != api.OK {
		t.Errorf("%x", w.Bytes())
	}
}

// TestKeyDiffers: of all short lists of a few numbers and sizes, and of such as look alike, no two have the same key.
func TestKeyDiffers(t *testing.T) {
	var lists [][]huff.Entry
	var all func(l []huff.Entry)
	all = func(l []huff.Entry) {
		if _, e := huff.New(l); e == api.OK {
			lists = append(lists, l)
		}
		if len(l) == 3 {
			return
		}
		for _, n := range []int{-api.MaxInt, -12, -2, -1, 0, 1, 2, 3, 11, 12, 111, 256, 512, 65536, api.MaxInt} {
			for _, size := range []int{0, 1, 2, 3, 11, 12, 20} {
				if len(l) == 0 || n > l[len(l)-1].Symbol {
					all(append(slices.Clip(l), huff.Entry{Symbol: n, Size: size}))
				}
			}
		}
	}
	all(nil)
	for n := 200; n <= 256; n++ {
		lists = append(lists, entries(slices.Repeat([]int{8}, n)...), entries(slices.Repeat([]int{9}, n)...))
	}
	seen := map[string][]huff.Entry{}
	for _, l := range lists {
		key := huff.Key(l)
		if other := seen[key]; other != nil {
			t.Fatalf("%v and %v have one key", l, other)
		}
		seen[key] = l
		if huff.Key(slices.Clone(l)) != key {
			t.Fatalf("%v has two keys", l)
		}
	}
	if len(lists) < 10000 {
		t.Errorf("only %d lists", len(lists))
	}
}

// TestKeyOfAnything: lists that New doesn't take have some key, too.
func TestKeyOfAnything(t *testing.T) {
	if huff.Key(nil) != huff.Key([]huff.Entry{}) {
		t.Error("nil and empty differ")
	}
	huff.Key([]huff.Entry{{math.MinInt, math.MaxInt}, {math.MaxInt, math.MinInt}})
	huff.Key(make([]huff.Entry, 100000))
}
