package freq_test

import (
	"math"
	"testing"

	"scriptorium/api"
	"scriptorium/freq"
)

// TestAll: the chapter's constant.
func TestAll(t *testing.T) {
	if freq.All != 4096 {
		t.Error(freq.All)
	}
}

// TestCheck: P6.1; ErrRange comes ahead of ErrSum, wherever the part is.
func TestCheck(t *testing.T) {
	for _, x := range tables() {
		if e := x.Check(); e != api.OK {
			t.Errorf("%v: %d", x, int(e))
		}
	}
	for _, c := range refused() {
		if e := c.t.Check(); e != c.want {
			t.Errorf("%v: %d, not %d", c.t, int(e), int(c.want))
		}
	}
	for c := range 256 {
		for _, parts := range []int{-1, 4097, math.MinInt, math.MaxInt} {
			x := freq.Table{}
			x[c] = parts
			x[255-c] = 4096 - parts
			if e := x.Check(); e != api.ErrRange {
				t.Errorf("%d parts of byte %d: %d", parts, c, int(e))
			}
		}
	}
}

// TestStarts: P6.1; of each one, and the end.
func TestStarts(t *testing.T) {
	for _, x := range tables() {
		starts := x.Starts()
		if starts[0] != 0 || starts[256] != 4096 {
			t.Errorf("%v begins at %d, ends at %d", x, starts[0], starts[256])
		}
		for c := range 256 {
			ahead := freq.Table{}
			copy(ahead[:], x[:c])
			if int64(starts[c]) != total(ahead).Int64() {
				t.Errorf("%v: byte %d begins at %d", x, c, starts[c])
			}
		}
	}
	x := table(map[byte]int{2: 5, 4: 4000, 255: 91})
	starts := x.Starts()
	for c, want := range map[int]int{0: 0, 2: 0, 3: 5, 4: 5, 5: 4005, 255: 4005, 256: 4096} {
		if starts[c] != want {
			t.Errorf("byte %d begins at %d, not %d", c, starts[c], want)
		}
	}
}

// TestFind: P6.1; every part of a table.
func TestFind(t *testing.T) {
	for _, x := range tables() {
		part := 0
		for c, parts := range x {
			for range parts {
				if got := x.Find(part); int(got) != c {
					t.Fatalf("%v: part %d is of %d, not %d", x, part, got, c)
				}
				part++
			}
		}
		if part != 4096 {
			t.Fatal("the test hasn't asked for every part")
		}
	}
}

// TestAnyTable: P1; what Check refuses, and parts that are none, bring no call down.
func TestAnyTable(t *testing.T) {
	parts := []int{math.MinInt, math.MinInt + 1, -4096, -1, 0, 1, 2048, 4095, 4096, 4097, 1 << 32, math.MaxInt - 1, math.MaxInt}
	for _, c := range refused() {
		c.t.Starts()
		for _, part := range parts {
			c.t.Find(part)
		}
	}
	for _, x := range tables() {
		for _, part := range parts {
			if got := x.Find(part); (part < 0 || part > 4095) && got != 0 {
				t.Errorf("part %d is of %d", part, got)
			}
		}
	}
	d := dice(63)
	for range 200 {
		x := freq.Table{}
		for i := range x {
			x[i] = parts[d.below(len(parts))]
		}
		x.Check()
		x.Starts()
		for _, part := range parts {
			x.Find(part)
		}
	}
}
