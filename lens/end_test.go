package lens_test

import (
	"math"
	"testing"

	"scriptorium/api"
	"scriptorium/desc"
	"scriptorium/lens"
)

// TestNew: the chapter's example; no bits, no blocks: nothing is wrong, nothing is left.
func TestNew(t *testing.T) {
	for _, x := range []*lens.Lens{lens.New(nil, nil), lens.New([]byte{}, map[int][]byte{}), of("", map[int]string{1: "", 60000: ""})} {
		if x.Err() != api.OK || x.End() != api.OK {
			t.Errorf("error %d, at the end %d", int(x.Err()), int(x.End()))
		}
	}
}

// TestEnd: P11.1; ErrRest of a whole byte, or a one, that is left of the row; of anything that is left in any block.
func TestEnd(t *testing.T) {
	for _, c := range []struct {
		core   string
		blocks map[int]string
		want   api.Errno
	}{
		{"", nil, api.OK},
		{"\x00", nil, api.ErrRest},
		{"\x01", nil, api.ErrRest},
		{"", map[int]string{1: "\x00"}, api.ErrRest},
		{"", map[int]string{60000: "a"}, api.ErrRest},
		{"", map[int]string{1: "", 2: "", 3: "a"}, api.ErrRest},
		{"", map[int]string{1: "a", 2: "", 3: ""}, api.ErrRest},
		{"", map[int]string{1: "", 2: "a", 3: ""}, api.ErrRest},
		{"", map[int]string{1: "", 2: "", 3: ""}, api.OK},
		{"\x00", map[int]string{1: "a"}, api.ErrRest},
		// Numbers by which nothing can be taken.
		{"", map[int]string{0: "a"}, api.ErrRest},
		{"", map[int]string{math.MinInt: "a", 60001: ""}, api.ErrRest},
		{"", map[int]string{60001: "a"}, api.ErrRest},
	} {
		x := of(c.core, c.blocks)
		for range 3 {
			if x.End() != c.want || x.Err() != api.OK {
				t.Errorf("%x, %v: at the end %d, not %d; error %d", c.core, c.blocks, int(x.End()), int(c.want), int(x.Err()))
			}
		}
	}
}

// TestEndOfTheRow: P11.1; of each number of bits that are taken: noughts behind don't matter, a one does, a byte does.
func TestEndOfTheRow(t *testing.T) {
	for taken := range 17 {
		for one := range 17 {
			core := []byte{0, 0}
			if one < 16 {
				core[one/8] = 0x80 >> (one % 8)
			}
			x := lens.New(core, nil)
			x.Int(fixed(0, taken))
			want := api.OK
			switch {
			case taken > 16:
				want = api.ErrShort
			case taken <= 8, one >= taken && one < 16:
				want = api.ErrRest
			}
			if x.End() != want {
				t.Errorf("%d bits of %x: at the end %d, not %d", taken, core, int(x.End()), int(want))
			}
		}
	}
}

// TestMoreAfterEnd: P11.1 and R8; End only looks, so that what it told is no error, and more can be taken.
func TestMoreAfterEnd(t *testing.T) {
	x := of("\x50", map[int]string{1: "\x01a\x00"})
	for i, got := range []func() int{
		func() int { return x.Int(fixed(0, 4)) },
		func() int { return x.Int(outside(1)) - 1 + 5 },
		func() int { return len(x.Array(stopped(1, 0))) - 1 + 5 },
	} {
		if e := x.End(); e != api.ErrRest || x.Err() != api.OK {
			t.Errorf("ahead of %d: at the end %d, error %d", i, int(e), int(x.Err()))
		}
		if n := got(); n != 5 {
			t.Errorf("%d: %d", i, n)
		}
	}
	if x.End() != api.OK {
		t.Errorf("at the end %d", int(x.End()))
	}
}

// full: a lens of which each way takes something.
func full() *lens.Lens {
	return of("\xff\xff\xff\xff", map[int]string{1: "\x01\x01\x01\x01", 2: "a\x00a\x00", 4: "\x80\x01"})
}

// isOver: all answers are zero, those of the row's promoted calls, too, and the error stays this one, whatever comes.
func isOver(t *testing.T, what string, x *lens.Lens, want api.Errno) {
	t.Helper()
	ways := []desc.Ints{outside(1), outside(9), words(entries(1, 0)), words(entries(1, 1, 2, 1)), words(nil), fixed(3, 0), fixed(1, 3), fixed(1, 99), {}}
	for range 2 {
		for _, d := range ways {
			if n, m, b := x.Int(d), x.Within(d, 1, 5), x.Array(counted(2, d)); n != 0 || m != 0 || len(b) != 0 {
				t.Errorf("%s, by %v: %d, %d, %q", what, d, n, m, b)
			}
		}
		if b := x.Array(stopped(2, 0)); len(b) != 0 {
			t.Errorf("%s: %q", what, b)
		}
		if n := x.Take(1); n != 0 || !x.Ended() {
			t.Errorf("%s: the row has %d", what, n)
		}
		if x.Err() != want || x.End() != want {
			t.Errorf("%s: error %d, at the end %d, not %d", what, int(x.Err()), int(x.End()), int(want))
		}
		x.Wrong(api.ErrEnd)
		x.Wrong(api.OK)
	}
}

// TestFirstErrorStays: P11.1; whatever it is, and whichever call it comes from; then nothing is answered.
func TestFirstErrorStays(t *testing.T) {
	for _, c := range refused() {
		x := full()
		x.Int(c.d)
		isOver(t, "a way", x, c.want)
		x = full()
		x.Array(counted(1, c.d))
		isOver(t, "a way of bytes", x, c.want)
	}
	for _, c := range []struct {
		what string
		do   func(x *lens.Lens)
		want api.Errno
	}{
		{"no block", func(x *lens.Lens) { x.Int(outside(3)) }, api.ErrNone},
		{"no block of bytes", func(x *lens.Lens) { x.Array(stopped(3, 0)) }, api.ErrNone},
		{"no block of bytes, counted", func(x *lens.Lens) { x.Array(counted(3, outside(1))) }, api.ErrNone},
		{"a short row", func(x *lens.Lens) { x.Int(fixed(0, 31)); x.Int(fixed(0, 2)) }, api.ErrShort},
		{"no word", func(x *lens.Lens) { x.Int(words(entries(1, 1))) }, api.ErrShort},
		{"a short block", func(x *lens.Lens) { x.Array(stopped(1, 0)) }, api.ErrShort},
		{"a short block, counted", func(x *lens.Lens) { x.Array(counted(2, fixed(5, 0))) }, api.ErrShort},
		{"a block at its end", func(x *lens.Lens) { x.Array(counted(1, fixed(4, 0))); x.Int(outside(1)) }, api.ErrShort},
		{"a number's form", func(x *lens.Lens) { x.Int(outside(4)) }, api.ErrForm},
		{"a number's form, counted", func(x *lens.Lens) { x.Array(counted(2, outside(4))) }, api.ErrForm},
		{"out of range", func(x *lens.Lens) { x.Within(outside(1), 2, 3) }, api.ErrRange},
		{"out of range, of words", func(x *lens.Lens) { x.Within(words(entries(1, 0)), 2, 3) }, api.ErrRange},
		{"out of range, fixed", func(x *lens.Lens) { x.Within(fixed(1, 0), 2, 3) }, api.ErrRange},
		{"below nothing", func(x *lens.Lens) { x.Array(counted(2, fixed(-1, 0))) }, api.ErrRange},
		{"told", func(x *lens.Lens) { x.Wrong(api.ErrSeq) }, api.ErrSeq},
		{"told twice", func(x *lens.Lens) { x.Wrong(api.ErrSeq); x.Wrong(api.ErrQual) }, api.ErrSeq},
		{"told nothing first", func(x *lens.Lens) { x.Wrong(api.OK); x.Wrong(api.ErrQual) }, api.ErrQual},
		{"told behind another", func(x *lens.Lens) { x.Int(outside(3)); x.Wrong(api.ErrQual) }, api.ErrNone},
		{"told ahead of another", func(x *lens.Lens) { x.Wrong(api.ErrQual); x.Int(outside(3)) }, api.ErrQual},
		{"told what no error is", func(x *lens.Lens) { x.Wrong(-7) }, -7},
	} {
		x := full()
		c.do(x)
		isOver(t, c.what, x, c.want)
	}
}

// TestWrongOfNone: P11.1; no error is no error: all goes on.
func TestWrongOfNone(t *testing.T) {
	x, p := both("\xff", map[int]string{1: "\x05"})
	x.Wrong(api.OK)
	stands(t, x, p)
	takesInt(t, x, p, outside(1))
	takesInt(t, x, p, fixed(0, 8))
	if x.Ended() || x.End() != api.OK {
		t.Error("it has ended")
	}
}

// TestTheRowIsPromoted: a lens has its row's calls, which take from the same bits; End is its own.
func TestTheRowIsPromoted(t *testing.T) {
	x := of("\xa5\xf0", map[int]string{1: "\x05"})
	if x.Take(4) != 10 || x.Int(fixed(0, 4)) != 5 || x.Take(2) != 3 || x.Int(words(entries(7, 1, 8, 1))) != 8 || x.Ended() {
		t.Error("other bits")
	}
	if x.Reader.End() != api.ErrRest || x.End() != api.ErrRest {
		t.Error("nothing is left")
	}
	if x.Take(1) != 1 || x.Reader.End() != api.OK || x.End() != api.ErrRest {
		t.Error("its End is the row's alone")
	}
	if x.Int(outside(1)) != 5 || x.End() != api.OK {
		t.Errorf("at the end %d", int(x.End()))
	}
}

// TestTheRowHasEnded: P11.1; by a promoted call: End tells it, and nothing more can be taken of the row, be it no bits at all.
func TestTheRowHasEnded(t *testing.T) {
	for _, d := range []desc.Ints{fixed(0, 1), fixed(5, 0), words(entries(7, 1, 8, 1)), words(entries(7, 0))} {
		x := of("\xa5", map[int]string{1: "\x05"})
		x.Fail()
		if !x.Ended() || x.End() != api.ErrShort || x.Int(d) != 0 {
			t.Errorf("by %v: at the end %d", d, int(x.End()))
		}
		isOver(t, "a row that has ended", x, api.ErrShort)
	}
}
