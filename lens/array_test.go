package lens_test

import (
	"math"
	"strings"
	"testing"

	"scriptorium/api"
	"scriptorium/desc"
)

// isArray: the first bytes by a way are these, or an error; and at the end is this.
func isArray(t *testing.T, d desc.Arrays, core string, blocks map[int]string, want string, e, end api.Errno) {
	t.Helper()
	x := of(core, blocks)
	if b := x.Array(d); string(b) != want || x.Err() != e || x.End() != end {
		t.Errorf("by %v: %.40q, not %.40q; error %d, not %d; at the end %d, not %d", d, b, want, int(x.Err()), int(e), int(x.End()), int(end))
	}
}

// TestStopped: P11.1; bytes up to the first Stop, which is taken, too; ErrShort, if there is none.
func TestStopped(t *testing.T) {
	for _, c := range []struct {
		stop   byte
		b      string
		want   string
		e, end api.Errno
	}{
		{0, "ab\x00", "ab", api.OK, api.OK},
		{0, "\x00", "", api.OK, api.OK},
		{0, "\x00\x00", "", api.OK, api.ErrRest},
		{0, "ab\x00c", "ab", api.OK, api.ErrRest},
		{10, "\x00\n", "\x00", api.OK, api.OK},
		{255, "a\x00\x7f\x80\xfe\xff", "a\x00\x7f\x80\xfe", api.OK, api.OK},
		{128, "\x7f\x80", "\x7f", api.OK, api.OK},
		{0, "ab", "", api.ErrShort, api.ErrShort},
		{0, "", "", api.ErrShort, api.ErrShort},
		{1, "ab\x00", "", api.ErrShort, api.ErrShort},
	} {
		for _, block := range []int{1, 4, 256, 60000} {
			isArray(t, stopped(block, c.stop), "", map[int]string{block: c.b}, c.want, c.e, c.end)
			isArray(t, stopped(block, c.stop), "", map[int]string{block - 1: c.b, block + 1: c.b}, "", api.ErrNone, api.ErrNone)
		}
	}
}

// TestCounted: P11.1; their number by its own way, then so many bytes; ErrShort of fewer.
func TestCounted(t *testing.T) {
	l := words(entries(-4, 1, 2, 2, 3, 2))
	for _, c := range []struct {
		d      desc.Arrays
		core   string
		blocks map[int]string
		want   string
		e, end api.Errno
	}{
		{counted(7, outside(3)), "", map[int]string{3: "\x03", 7: "abc"}, "abc", api.OK, api.OK},
		{counted(3, outside(7)), "", map[int]string{7: "\x03", 3: "abc"}, "abc", api.OK, api.OK},
		{counted(7, outside(7)), "", map[int]string{7: "\x03abc"}, "abc", api.OK, api.OK},
		{counted(7, outside(7)), "", map[int]string{7: "\x00"}, "", api.OK, api.OK},
		{counted(7, outside(7)), "", map[int]string{7: "\x02abc"}, "ab", api.OK, api.ErrRest},
		{counted(7, outside(3)), "", map[int]string{3: "\x00", 7: ""}, "", api.OK, api.OK},
		{counted(2, fixed(3, 4)), "\x00", map[int]string{2: "abc"}, "abc", api.OK, api.OK},
		{counted(2, fixed(-1, 4)), "\x40", map[int]string{2: "abc"}, "abc", api.OK, api.OK},
		{counted(2, fixed(3, 0)), "", map[int]string{2: "a\x00\xff"}, "a\x00\xff", api.OK, api.OK},
		{counted(2, fixed(0, 0)), "", map[int]string{2: ""}, "", api.OK, api.OK},
		{counted(2, l), "\xc0", map[int]string{2: "abc"}, "abc", api.OK, api.OK},
		{counted(2, l), "\x80", map[int]string{2: "abc"}, "ab", api.OK, api.ErrRest},
		// The number can't be taken, or may not be: no bytes are.
		{counted(2, l), "\x00", map[int]string{2: "abcd"}, "", api.ErrRange, api.ErrRange},
		{counted(2, l), "", map[int]string{2: "abcd"}, "", api.ErrShort, api.ErrShort},
		{counted(2, fixed(-1, 4)), "\x00", map[int]string{2: "abcd"}, "", api.ErrRange, api.ErrRange},
		{counted(2, fixed(3, 4)), "", map[int]string{2: "abcd"}, "", api.ErrShort, api.ErrShort},
		{counted(2, outside(3)), "", map[int]string{2: "abcd"}, "", api.ErrNone, api.ErrNone},
		{counted(2, outside(3)), "", map[int]string{2: "abcd", 3: "\x80"}, "", api.ErrShort, api.ErrShort},
		{counted(2, outside(3)), "", map[int]string{2: "abcd", 3: "\x80\x03"}, "", api.ErrForm, api.ErrForm},
		{counted(2, outside(3)), "", map[int]string{2: "abcd", 3: "\xff\xff\xff\xff\x0f"}, "", api.ErrRange, api.ErrRange},
		{counted(2, outside(3)), "", map[int]string{2: "abcd", 3: "\xf8\x00\x00\x00\x00"}, "", api.ErrRange, api.ErrRange},
		// The number is right; there is no block, or it has fewer.
		{counted(2, outside(3)), "", map[int]string{3: "\x01"}, "", api.ErrNone, api.ErrNone},
		{counted(2, outside(3)), "", map[int]string{3: "\x00"}, "", api.ErrNone, api.ErrNone},
		{counted(2, fixed(0, 0)), "", nil, "", api.ErrNone, api.ErrNone},
		{counted(2, outside(3)), "", map[int]string{2: "", 3: "\x01"}, "", api.ErrShort, api.ErrShort},
		{counted(2, outside(3)), "", map[int]string{2: "abc", 3: "\x04"}, "", api.ErrShort, api.ErrShort},
		{counted(7, outside(7)), "", map[int]string{7: "\x03ab"}, "", api.ErrShort, api.ErrShort},
		// The number's error comes ahead of the block's that there isn't.
		{counted(2, outside(3)), "", nil, "", api.ErrNone, api.ErrNone},
		{counted(2, outside(3)), "", map[int]string{3: ""}, "", api.ErrShort, api.ErrShort},
		{counted(2, outside(3)), "", map[int]string{3: "\x80\x03"}, "", api.ErrForm, api.ErrForm},
		{counted(2, fixed(-1, 1)), "\x00", nil, "", api.ErrRange, api.ErrRange},
		{counted(2, fixed(-1, 1)), "", nil, "", api.ErrShort, api.ErrShort},
	} {
		isArray(t, c.d, c.core, c.blocks, c.want, c.e, c.end)
	}
}

// TestMostBytes: P11.1; by Count up to MaxBytes, though there be more; up to Stop as many as there are.
func TestMostBytes(t *testing.T) {
	long := strings.Repeat("a", api.MaxBytes+1)
	most := long[1:]
	isArray(t, counted(2, outside(1)), "", map[int]string{1: "\xd0\x00\x00", 2: most}, most, api.OK, api.OK)
	isArray(t, counted(2, outside(1)), "", map[int]string{1: "\xd0\x00\x01", 2: long}, "", api.ErrRange, api.ErrRange)
	isArray(t, counted(2, fixed(api.MaxBytes, 1)), "\x00", map[int]string{2: most}, most, api.OK, api.OK)
	isArray(t, counted(2, fixed(api.MaxBytes, 1)), "\x80", map[int]string{2: long}, "", api.ErrRange, api.ErrRange)
	isArray(t, counted(2, words(entries(api.MaxBytes, 1, api.MaxBytes+1, 1))), "\x00", map[int]string{2: most}, most, api.OK, api.OK)
	isArray(t, counted(2, words(entries(api.MaxBytes, 1, api.MaxBytes+1, 1))), "\x80", map[int]string{2: long}, "", api.ErrRange, api.ErrRange)
	isArray(t, stopped(2, 'b'), "", map[int]string{2: long + "b"}, long, api.OK, api.OK)
}

// TestWaysOfBytesComeFirst: P11.1 and R2; what is wrong with a way, ahead of what can't be taken; the block first, then the kind, or its number's way.
func TestWaysOfBytesComeFirst(t *testing.T) {
	all := map[int]string{-1: "\x00", 0: "\x00", 1: "\x00", 3: "\x00", 60001: "\x00"}
	for _, blocks := range []map[int]string{nil, all} {
		for _, c := range refused() {
			isArray(t, counted(3, c.d), "\x00", blocks, "", c.want, c.want)
			isArray(t, counted(0, c.d), "\x00", blocks, "", api.ErrRange, api.ErrRange)
		}
		for _, block := range []int{0, -1, 60001, 1<<32 + 1, math.MinInt, math.MaxInt} {
			isArray(t, stopped(block, 0), "\x00", blocks, "", api.ErrRange, api.ErrRange)
			isArray(t, counted(block, outside(1)), "", blocks, "", api.ErrRange, api.ErrRange)
			isArray(t, counted(block, words(entries(0, 0))), "", blocks, "", api.ErrRange, api.ErrRange)
		}
		for kind := range 256 {
			if kind != 4 && kind != 5 {
				isArray(t, desc.Arrays{Kind: desc.Kind(kind), Block: 1, Ints: fixed(0, 0)}, "", blocks, "", api.ErrKind, api.ErrKind)
			}
		}
	}
}

// TestWhatDoesNotBelongToBytes: P11.1; of Stopped the number's way may be anything, of Count Stop may.
func TestWhatDoesNotBelongToBytes(t *testing.T) {
	for _, c := range refused() {
		d := stopped(3, 'z')
		d.Ints = c.d
		isArray(t, d, "", map[int]string{3: "abz"}, "ab", api.OK, api.OK)
	}
	d := counted(3, fixed(3, 0))
	d.Stop = 'b'
	isArray(t, d, "", map[int]string{3: "abc"}, "abc", api.OK, api.OK)
}

// TestAllFromOneBlock: P11.1; numbers and bytes that stand in one block are taken in their order.
func TestAllFromOneBlock(t *testing.T) {
	x, p := both("\xc0", map[int]string{5: "\x01ab\x00\x02cdefg\x81\x2ch\x01", 6: "\x01"})
	takesInt(t, x, p, outside(5))
	takesArray(t, x, p, stopped(5, 0))
	takesArray(t, x, p, counted(5, outside(5)))
	takesArray(t, x, p, counted(5, fixed(0, 2)))
	takesInt(t, x, p, outside(5))
	takesArray(t, x, p, counted(5, outside(6)))
	takesArray(t, x, p, stopped(5, 1))
	if x.End() != api.OK {
		t.Errorf("at the end %d", int(x.End()))
	}
}
