package chain_test

import (
	"bytes"
	"encoding/hex"
	"math"
	"slices"
	"strings"
	"testing"

	"scriptorium/api"
	"scriptorium/chain"
	"scriptorium/freq"
	"scriptorium/rans"
)

const (
	// still is a state that nothing has changed.
	still = "\x00\x00\x80\x00"
	// sole are all parts, of the only byte that a table has.
	sole = "\x90\x00"
)

// refused: Take answers an error, and nothing beside it.
func refused(t *testing.T, what string, in []byte) {
	t.Helper()
	if got, e := chain.Take(in, api.MaxBlock); e == api.OK || len(got) != 0 {
		t.Errorf("%s: %x is taken as %q (error %d)", what, in, got, int(e))
	}
}

// TestPut: P8.1, byte by byte.
func TestPut(t *testing.T) {
	half := "\x02\x61\x88\x00\x00\x88\x00"
	four := "\x00\x00\x00\x02" + "\x00\x04\x00\x02" + "\x00\x08\x00\x02" + "\x00\x0c\x00\x02"
	for _, c := range []struct{ in, want string }{
		{"", "\x00"},
		// One byte is the fourth quarter, and 0 is ahead of it.
		{"a", "\x01" + "\x01" + "\x00\x01\x61" + sole + still + still + still + still},
		{"\x00", "\x01" + "\x01" + "\x00\x01\x00" + sole + still + still + still + still},
		// Two are the second and the fourth: neither is ahead of the other.
		{"ab", "\x02" + "\x01" + "\x00" + half + still + "\x00\x00\x00\x01" + still + "\x00\x08\x00\x01"},
		// The third is in the fourth quarter, too, behind b.
		{"abc", "\x03" + "\x02" + "\x00" + half + "b\x01\x63" + sole + still + "\x00\x00\x00\x01" + still + "\x00\x08\x00\x01"},
		// A byte that is ahead is put as a byte, however great it is; in its table a byte is a number.
		{"\x80\x80\x80", "\x03" + "\x02" + "\x00\x01\x80\x80" + sole + "\x80\x01\x80\x80" + sole + still + still + still + still},
		{"abcd", "\x04" + "\x01" + "\x00\x04\x61\x84\x00\x00\x84\x00\x00\x84\x00\x00\x84\x00" + four},
		{"abcde", "\x05" + "\x02" + "\x00\x04\x61\x84\x00\x00\x84\x00\x00\x84\x00\x00\x84\x00" + "d\x01\x65" + sole + four},
		{"abcdef", "\x06" + "\x03" + "\x00\x04\x61\x84\x00\x00\x84\x00\x01\x84\x00\x00\x84\x00" + "b\x01\x63" + sole + "e\x01\x66" + sole + four},
		{"abcdefg", "\x07" + "\x04" + "\x00\x04\x61\x84\x00\x00\x84\x00\x01\x84\x00\x00\x84\x00" + "b\x01\x63" + sole + "e\x01\x66" + sole + "f\x01\x67" + sole + four},
		{strings.Repeat("abbcbbcba", 3), "\x1b" + "\x04" + "\x00\x03\x61\x84\x00\x00\x88\x00\x00\x84\x00" + "a\x02\x61\x88\x00\x00\x88\x00" + "b\x03\x61\x83\x6d\x00\x86\xdd\x00\x85\xb6" + "c\x01\x62" + sole +
			"\xc6\x31\xe8\x3c" + "\x71\x0e\xf4\x00" + "\x26\x28\x02\x3d" + "\xc5\x39\xc7\x00" + "\x36\x2d"},
	} {
		if got := chain.Put([]byte(c.in)); string(got) != c.want {
			t.Errorf("%q: %x, not %x", c.in, got, c.want)
		}
	}
}

// TestPutOfASentence: P8.1; bytes go out of all four states, in turn, and great bytes are ahead of others.
func TestPutOfASentence(t *testing.T) {
	const want = "3b12" +
		"00036484000f8800018400" + "2002748e39808a81c7" + "640120900065042089254482490d8249058249" + "670168900068066181990384d00381990581990284cc018199" +
		"69026588000688006c" + "026588000688006e" + "016590006f" + "026e88000688007203658556038555058555" + "730120900074022082e8478d18" + "750167900076016590007901209000" +
		"800180ff9000" + "ff0180809000" +
		"88c68000" + "0c7c7704" + "1726c34b" + "b670141b" + "cf9b7ffd92b8"
	got := chain.Put([]byte("the three thieves thought that they thrilled the throne \xff\x80\xff"))
	if hex.EncodeToString(got) != want {
		t.Errorf("%x, not %s", got, want)
	}
}

// TestPutAgainstTheModel: P8.1.
func TestPutAgainstTheModel(t *testing.T) {
	for _, b := range samples() {
		if got := chain.Put(b); !bytes.Equal(got, put(b)) {
			t.Errorf("%x: %x, not %x", b, got, put(b))
		}
	}
}

// TestTheOneAheadHelps: bytes that hang on the one ahead are put in less than by chapter 7.
func TestTheOneAheadHelps(t *testing.T) {
	b := bytes.Repeat([]byte("abcdefgh"), 500)
	if one, other := len(chain.Put(b)), len(rans.Put(b)); one >= 100 || other < 1000 {
		t.Errorf("%d bytes, and %d", one, other)
	}
}

// TestTakeBack: P8.1; of as many as there are, and of more; one fewer is ErrMany.
func TestTakeBack(t *testing.T) {
	for _, b := range samples() {
		in := put(b)
		for _, most := range []int{len(b), len(b) + 1, api.MaxBlock, math.MaxInt} {
			if got, e := chain.Take(in, most); e != api.OK || !bytes.Equal(got, b) {
				t.Errorf("%x came back as %x, error %d, of at most %d", b, got, int(e), most)
			}
		}
		for _, most := range []int{len(b) - 1, 0, -1, math.MinInt} {
			want := api.ErrMany
			if len(b) == 0 {
				want = api.OK
			}
			if got, e := chain.Take(in, most); e != want || len(got) != 0 {
				t.Errorf("%x came back as %x, error %d, of at most %d", b, got, int(e), most)
			}
		}
	}
}

// TestTakeOfTheMost: P8.1; 8388608 bytes at most, however many may be.
func TestTakeOfTheMost(t *testing.T) {
	b := bytes.Repeat([]byte{'x'}, 8388609)
	most, more := chain.Put(b[:8388608]), chain.Put(b)
	for _, n := range []int{8388608, 8388609, math.MaxInt} {
		if got, e := chain.Take(most, n); e != api.OK || !bytes.Equal(got, b[:8388608]) {
			t.Errorf("at most %d: 8388608 bytes came back as %d, error %d", n, len(got), int(e))
		}
		if got, e := chain.Take(more, n); e != api.ErrMany || len(got) != 0 {
			t.Errorf("at most %d: 8388609 bytes came back as %d, error %d", n, len(got), int(e))
		}
	}
}

// TestManyIsAheadOfTheRest: P8.1; how many comes first, whatever is behind it.
func TestManyIsAheadOfTheRest(t *testing.T) {
	for _, n := range []int{11, 300, 1 << 28, math.MaxUint32} {
		for _, rest := range []string{"", "\x00", "\x01\x00\x00"} {
			if got, e := chain.Take(append(number(n), rest...), 10); e != api.ErrMany || len(got) != 0 {
				t.Errorf("%d: %x, error %d", n, got, int(e))
			}
		}
	}
}

// TestCutAndMore: P8.1; no beginning is whole, and nothing may be behind.
func TestCutAndMore(t *testing.T) {
	for _, b := range samples() {
		in := put(b)
		for size := range in {
			// In the middle of a long one all is alike.
			if size < 60 || size > len(in)-60 {
				refused(t, "a beginning", in[:size])
			}
		}
		for c := range 16 {
			refused(t, "more behind", append(bytes.Clone(in), byte(c*17)))
		}
		refused(t, "twice", append(bytes.Clone(in), in...))
	}
}

// TestOtherTables: P8.1; a table that isn't the bytes' own is none of Put's, though the bytes could be told by it.
func TestOtherTables(t *testing.T) {
	d := dice(9)
	for _, b := range samples() {
		l := own(b)
		for range min(10, 10*len(l)) {
			other := slices.Clone(l)
			x := &other[d.below(len(l))]
			from, to := d.below(256), d.below(256)
			for x.table[from] < 2 {
				from = d.below(256)
			}
			n := 1 + d.below(x.table[from]-1)
			x.table[from] -= n
			x.table[to] += n
			if from != to {
				refused(t, "another table", made(b, other, least()))
			}
		}
	}
}

// TestOtherEntries: P8.1; each byte that is ahead of any has a table, once, rising, and no other one has.
func TestOtherEntries(t *testing.T) {
	sole, _ := freq.Of([]byte{0})
	for _, b := range samples() {
		l := own(b)
		if len(l) == 0 {
			continue
		}
		behind := told(b, l, least())
		with := func(what string, l []entry) {
			t.Helper()
			refused(t, what, bytes.Join([][]byte{number(len(b)), listed(l), behind}, nil))
		}
		with("no table", nil)
		for i, x := range l[:min(len(l), 20)] {
			with("one that is missing", slices.Delete(slices.Clone(l), i, i+1))
			with("one twice", slices.Insert(slices.Clone(l), i, x))
			if i > 0 {
				fallen := slices.Clone(l)
				fallen[i-1], fallen[i] = x, l[i-1]
				with("two that fall", fallen)
			}
		}
		for i, x := range l {
			// Between two, if there is room: one that is ahead of none.
			if first := int(x.first) + 1; first < 256 && (i+1 == len(l) || int(l[i+1].first) > first) {
				with("one too many", slices.Insert(slices.Clone(l), i+1, entry{byte(first), sole}))
			}
		}
		if len(l) == 256 {
			with("257", append(slices.Clone(l), l[255]))
		}
	}
}

// TestOtherStates: P8.1; Put begins with the least states: what others lead to is none of its.
func TestOtherStates(t *testing.T) {
	d := dice(10)
	for _, b := range samples() {
		for i := 0; len(b) > 0 && i < 8; i++ {
			f := least()
			f[i%4] += []int{1, 1 << 23, 1<<31 - 1<<23 - 1, 1 + d.below(1<<24)}[d.below(4)]
			refused(t, "other states", made(b, own(b), f))
		}
	}
}

// TestOtherForms: P8.1; a number in more bytes than it needs, states that may not be, bytes of none.
func TestOtherForms(t *testing.T) {
	whole := chain.Put([]byte("ab"))
	if _, e := chain.Take(whole, 2); e != api.OK {
		t.Fatalf("error %d", int(e))
	}
	refused(t, "nothing", nil)
	refused(t, "how many, in two bytes", append([]byte{0x80}, whole...))
	refused(t, "how many tables, in two bytes", append([]byte{2, 0x80}, whole[1:]...))
	refused(t, "none, in two bytes", []byte{0x80, 0})
	refused(t, "none, and more", []byte{0, 0})
	refused(t, "none, and tables", append([]byte{0}, whole[1:]...))
	refused(t, "one fewer", append([]byte{1}, whole[1:]...))
	refused(t, "one more", append([]byte{3}, whole[1:]...))
	refused(t, "as chapter 7 puts them", rans.Put([]byte("ab")))
	high := chain.Put([]byte("\x80\x80\x80"))
	at := bytes.LastIndex(high, []byte("\x80\x01\x80\x80"))
	refused(t, "a byte ahead, as a number", slices.Insert(bytes.Clone(high), at, 0x80))
	for at := len(whole) - 16; at < len(whole); at += 4 {
		for _, top := range []byte{0x80, 0xff} {
			spoilt := bytes.Clone(whole)
			spoilt[at+3] = top
			refused(t, "a state too great", spoilt)
		}
		spoilt := bytes.Clone(whole)
		copy(spoilt[at:], "\xff\xff\x7f\x00")
		refused(t, "a state too small", spoilt)
	}
}

// TestSpoilt: P8.1; whatever Take takes is just what Put makes of it: of bytes with any bit changed, or any byte.
func TestSpoilt(t *testing.T) {
	d := dice(11)
	for turn, b := range samples() {
		in := put(b)
		for i := range in {
			// The tables are ahead, the states and what went out behind. Of these places each sample has a fifth, another one than the sample ahead.
			if i >= 40 && i < len(in)-20 || i%5 != turn%5 {
				continue
			}
			for n := range 9 {
				spoilt := bytes.Clone(in)
				spoilt[i] ^= byte(1 << n)
				if n == 8 {
					spoilt[i] ^= byte(1 + d.below(255))
				}
				isPuts(t, spoilt)
			}
		}
	}
}

// isPuts: if Take takes it, Put makes just that.
func isPuts(t *testing.T, in []byte) {
	t.Helper()
	got, e := chain.Take(in, 100000)
	if e == api.OK && !bytes.Equal(put(got), in) {
		t.Errorf("%x is taken as %x, which is put as %x", in, got, put(got))
	}
	if e != api.OK && len(got) != 0 {
		t.Errorf("%x: error %d, and %x", in, int(e), got)
	}
}

// TestAnyBytes: P1 and P8.1, of bytes that are of no one, and of such behind a true beginning.
func TestAnyBytes(t *testing.T) {
	d := dice(12)
	for a := range 256 {
		isPuts(t, []byte{byte(a)})
		for b := range 256 {
			isPuts(t, []byte{byte(a), byte(b)})
		}
	}
	for range 5000 {
		in := d.bytes(d.below(60), 256)
		isPuts(t, in)
		isPuts(t, bytes.Join([][]byte{
			number(d.below(12)),
			listed(own(d.bytes(1+d.below(9), 1+d.below(9)))),
			states([4]int{d.below(1 << 31), 1 << 23, 1 << 23, 1<<23 + d.below(3)}),
			in[:len(in)/20],
		}, nil))
	}
}
