package cigar_test

import (
	"math"
	"strings"
	"testing"

	"scriptorium/api"
	"scriptorium/cigar"
)

// lengths of ops: right ones, and wrong ones.
var (
	right = []int{1, 2, 9, 10, 255, 256, 65536, longest - 1, longest}
	wrong = []int{math.MinInt, -longest, -2, -1, 0, longest + 1, longest + 2, 1 << 30, 1 << 32, 1<<32 + 1, math.MaxInt}
)

// TestLimits: P13.1; the letters by their numbers, and how long an op may be.
func TestLimits(t *testing.T) {
	if cigar.Kinds != "MIDNSHP=X" || cigar.MaxLen != 268435455 {
		t.Error("a limit isn't as the chapter has it")
	}
}

// TestOp: P13.1 and R2; each byte as a kind, and then how long.
func TestOp(t *testing.T) {
	for k := range 256 {
		kind, bad := byte(k), api.ErrRange
		if !strings.Contains("MIDNSHP=X", string([]byte{kind})) {
			bad = api.ErrKind
		}
		for _, n := range wrong {
			if e := (cigar.Op{Len: n, Kind: kind}).Check(); e != bad {
				t.Errorf("%d of %q: error %d", n, kind, int(e))
			}
		}
		for _, n := range right {
			if e := (cigar.Op{Len: n, Kind: kind}).Check(); e != api.OK && bad == api.ErrRange || e != api.ErrKind && bad == api.ErrKind {
				t.Errorf("%d of %q: error %d", n, kind, int(e))
			}
		}
	}
}

// TestReadsAndRefers: P13.1; of each byte as a kind, however long.
func TestReadsAndRefers(t *testing.T) {
	for k := range 256 {
		one := string([]byte{byte(k)})
		for _, n := range append(right, wrong...) {
			o := cigar.Op{Len: n, Kind: byte(k)}
			if o.Reads() != strings.Contains("MIS=X", one) || o.Refers() != strings.Contains("MDN=X", one) {
				t.Errorf("%q: %v, %v", one, o.Reads(), o.Refers())
			}
		}
	}
}

// TestMayBe: P13.1; none, each letter, any row, as many and as long as there may be.
func TestMayBe(t *testing.T) {
	isChecked(t, nil, api.OK)
	isChecked(t, cigar.Cigar{}, api.OK)
	isChecked(t, of(3, 'M', 1, 'D', 2, 'M'), api.OK)
	isChecked(t, of(3, 'M', 2, 'M', 1, '=', 1, 'H', 1, 'X', 1, 'S', 1, 'P'), api.OK)
	for _, k := range []byte("MIDNSHP=X") {
		for _, n := range right {
			isChecked(t, times(1, n, k), api.OK)
		}
		isChecked(t, times(199, 1, k), api.OK)
		isChecked(t, times(200, 1, k), api.OK)
	}
}

// TestMany: P13.1 and R2; ErrMany above 200 ops, ahead of all else.
func TestMany(t *testing.T) {
	for _, n := range []int{201, 202, 400, 1000} {
		isChecked(t, times(n, 1, 'M'), api.ErrMany)
		isChecked(t, times(n, 0, 'M'), api.ErrMany)
		isChecked(t, times(n, 1, 'Z'), api.ErrMany)
		isChecked(t, times(n, longest, 'M'), api.ErrMany)
	}
}

// TestOpByOp: P13.1 and R2; the first op with an error has it, wherever it stands, and whatever the sums are.
func TestOpByOp(t *testing.T) {
	for _, n := range []int{0, 1, 50, 198} {
		head := times(n, longest, 'M')
		for _, w := range wrong {
			isChecked(t, and(head, of(w, 'M')), api.ErrRange)
			isChecked(t, and(head, of(w, 'M', w, 'Z')), api.ErrRange)
			isChecked(t, and(head, of(w, 'Z')), api.ErrKind)
			isChecked(t, and(head, of(w, 'm')), api.ErrKind)
		}
	}
	isChecked(t, of(0, 'M', 1, 'Z'), api.ErrRange)
	isChecked(t, of(1, 'Z', 0, 'M'), api.ErrKind)
	isChecked(t, of(0, 'Z', 0, 'M'), api.ErrKind)
	isChecked(t, of(1, 'M', 0, 'M', 1, 'Z', 1, 'M'), api.ErrRange)
	isChecked(t, cigar.Cigar{{}}, api.ErrKind)
}

// TestSize: P13.1; ErrSize, if the letters of the read, or of the contig, are more than MaxInt; of H and P there may be as many as one likes.
func TestSize(t *testing.T) {
	for _, k := range []byte("MIDNS=X") {
		isChecked(t, and(times(8, longest, k), times(1, 7, k)), api.OK)
		isChecked(t, and(times(8, longest, k), times(1, 8, k)), api.ErrSize)
		isChecked(t, and(times(1, 8, k), times(8, longest, k)), api.ErrSize)
		isChecked(t, and(times(8, longest, k), times(7, 1, k)), api.OK)
		isChecked(t, and(times(8, longest, k), times(192, 1, k)), api.ErrSize)
		isChecked(t, times(9, longest, k), api.ErrSize)
		isChecked(t, times(200, longest, k), api.ErrSize)
		isChecked(t, and(times(8, longest, k), times(1, 7, k), times(100, longest, 'H'), times(91, longest, 'P')), api.OK)
	}
	isChecked(t, times(200, longest, 'H'), api.OK)
	isChecked(t, times(200, longest, 'P'), api.OK)
	// Read and Ref are summed apart.
	isChecked(t, and(times(8, longest, 'I'), times(8, longest, 'D'), of(7, 'S', 7, 'N')), api.OK)
	isChecked(t, and(times(8, longest, 'I'), times(8, longest, 'D'), of(8, 'S')), api.ErrSize)
	isChecked(t, and(times(8, longest, 'I'), times(8, longest, 'D'), of(8, 'N')), api.ErrSize)
	isChecked(t, and(times(8, longest, 'I'), times(8, longest, 'D'), of(7, 'M')), api.OK)
	isChecked(t, and(times(8, longest, 'I'), of(8, 'M')), api.ErrSize)
	isChecked(t, and(times(8, longest, 'D'), of(8, 'X')), api.ErrSize)
}

// TestSums: P13.1; Read and Ref.
func TestSums(t *testing.T) {
	for _, c := range []struct {
		c         cigar.Cigar
		read, ref int
	}{
		{nil, 0, 0}, {cigar.Cigar{}, 0, 0}, {of(3, 'M', 1, 'D', 2, 'M'), 5, 6}, {of(2, 'S', 3, 'M', 1, 'D', 2, 'M'), 7, 6},
		{of(1, 'M', 2, 'I', 4, 'D', 8, 'N', 16, 'S', 32, 'H', 64, 'P', 128, '=', 256, 'X'), 1 + 2 + 16 + 128 + 256, 1 + 4 + 8 + 128 + 256},
		{of(5, 'H', 6, 'P'), 0, 0}, {of(5, 'H', 0, 'M', 1, 'Z'), 0, 0}, {of(-3, 'M', 1, 'I'), -2, -3}, {times(200, longest, '='), 200 * longest, 200 * longest},
		{times(1000, longest, 'I'), 1000 * longest, 0}, {times(1000, longest, 'N'), 0, 1000 * longest},
	} {
		if c.c.Read() != c.read || c.c.Ref() != c.ref {
			t.Errorf("%.60q: %d, %d", told(c.c), c.c.Read(), c.c.Ref())
		}
	}
}

// TestPlain: P13.1; no = or X, no M just behind an M.
func TestPlain(t *testing.T) {
	for _, c := range []cigar.Cigar{nil, {}, of(1, 'M'), of(3, 'M', 1, 'D', 2, 'M'), of(1, 'M', 1, 'P', 1, 'M', 1, 'I', 1, 'M'), of(1, 'I', 1, 'I', 1, 'D', 1, 'D', 1, 'N', 1, 'N', 1, 'S', 1, 'S', 1, 'H', 1, 'H', 1, 'P', 1, 'P'), of(1, 'M', 1, 'Z', 1, 'M'), of(0, 'M'), {{}, {}}, times(1000, 1, 'I')} {
		if !c.Plain() {
			t.Errorf("%.60q is plain", told(c))
		}
	}
	for _, c := range []cigar.Cigar{of(1, '='), of(1, 'X'), of(3, 'M', 2, 'M'), of(1, 'M', 1, '='), of(1, 'X', 1, 'M'), of(1, 'I', 1, 'M', 1, 'M'), of(1, 'M', 1, 'M', 1, 'I'), of(1, 'M', 1, 'I', 1, 'M', 1, 'M', 1, 'I'), of(1, 'M', 1, 'I', 1, '=', 1, 'I'), of(0, 'M', 0, 'M'), and(times(999, 1, 'I'), of(1, 'X'))} {
		if c.Plain() {
			t.Errorf("%.60q isn't plain", told(c))
		}
	}
}

// TestSame: P13.1 and R5; how many, their order, how long, which letter.
func TestSame(t *testing.T) {
	all := []cigar.Cigar{{}, of(1, 'M'), of(2, 'M'), of(1, 'I'), of(1, 'M', 1, 'I'), of(1, 'I', 1, 'M'), of(1, 'M', 2, 'I'), of(2, 'M', 1, 'I'), of(1, 'M', 1, 'M'), of(1, 'M', 1, 'M', 1, 'M'), {{}}, {{}, {}}, of(-1, 'M'), of(1<<32+1, 'M')}
	for i, a := range all {
		for j, b := range all {
			if cigar.Same(a, and(b)) != (i == j) {
				t.Errorf("%q and %q: %v", told(a), told(b), cigar.Same(a, b))
			}
		}
	}
	if !cigar.Same(nil, cigar.Cigar{}) || !cigar.Same(cigar.Cigar{}, nil) || !cigar.Same(nil, nil) || cigar.Same(nil, of(1, 'M')) {
		t.Error("none is as none")
	}
}

// TestByTheModel: P13.1; ops of few lengths and letters, right and wrong.
func TestByTheModel(t *testing.T) {
	d := dice(13)
	lens := []int{1, 1, 2, 3, 7, 8, longest, longest - 1, 1 << 27, 1 << 26}
	got := map[api.Errno]int{}
	for round := range 40000 {
		var c cigar.Cigar
		for range d.below(4 + d.below(40)) {
			c = append(c, cigar.Op{Len: lens[d.below(len(lens))], Kind: "MIDNSHP=XMIDNSH"[d.below(15)]})
		}
		if round%4 == 0 && len(c) > 0 {
			c[d.below(len(c))] = cigar.Op{Len: wrong[d.below(len(wrong))], Kind: "MIDZm\x00*"[d.below(7)]}
		}
		if round%50 == 0 {
			c = and(c, times(170+d.below(35), 1, 'H'))
		}
		want := checked(c)
		got[want]++
		isChecked(t, c, want)
		read, _ := summed(c, "MIS=X")
		ref, _ := summed(c, "MDN=X")
		if round%4 != 0 && (c.Read() != read || c.Ref() != ref) || c.Plain() != isPlain(c) || c.Text() != told(c) {
			t.Fatalf("%.200q: %d, %d, %v", told(c), c.Read(), c.Ref(), c.Plain())
		}
	}
	for _, e := range []api.Errno{api.OK, api.ErrMany, api.ErrKind, api.ErrRange, api.ErrSize} {
		if got[e] < 100 {
			t.Errorf("error %d came %d times", int(e), got[e])
		}
	}
}
