package cigar_test

import (
	"fmt"
	"math/big"
	"reflect"
	"regexp"
	"strings"
	"testing"

	"scriptorium/api"
	"scriptorium/cigar"
)

// dice are numbers that look like chance and are the same at each run.
type dice uint64

func (d *dice) below(n int) int {
	*d = *d*6364136223846793005 + 1442695040888963407
	return int(uint64(*d>>33) % uint64(n))
}

// longest is how long an op may be, as the chapter writes it.
const longest = 268435455

// of: ops, of a length and its letter, of the next one and its letter, and so on.
func of(all ...any) cigar.Cigar {
	var c cigar.Cigar
	for i := 0; i < len(all); i += 2 {
		c = append(c, cigar.Op{Len: all[i].(int), Kind: byte(all[i+1].(rune))})
	}
	return c
}

// times: an op, so many times.
func times(n, long int, kind byte) cigar.Cigar {
	var c cigar.Cigar
	for range n {
		c = append(c, cigar.Op{Len: long, Kind: kind})
	}
	return c
}

// and: cigars, one behind the other.
func and(all ...cigar.Cigar) cigar.Cigar {
	var c cigar.Cigar
	for _, d := range all {
		c = append(c, d...)
	}
	return c
}

var (
	aNumber = regexp.MustCompile(`\A(0|[1-9][0-9]{0,9})\z`)
	aCigar  = regexp.MustCompile(`\A(\*|([1-9][0-9]{0,8}[MIDNSHP=X])+)\z`)
	anOp    = regexp.MustCompile(`([0-9]+)(.)`)
)

// numbered: what Number says, worked out another way.
func numbered(s string, most int) (int, bool) {
	if !aNumber.MatchString(s) {
		return 0, false
	}
	n, _ := new(big.Int).SetString(s, 10)
	return int(n.Int64()), n.Cmp(big.NewInt(int64(most))) <= 0
}

// summed: how long those ops are that have one of the letters; false: more than MaxInt.
func summed(c cigar.Cigar, letters string) (int, bool) {
	n := new(big.Int)
	for _, o := range c {
		if strings.Contains(letters, string([]byte{o.Kind})) {
			n.Add(n, big.NewInt(int64(o.Len)))
		}
	}
	return int(n.Int64()), n.Cmp(big.NewInt(2147483647)) <= 0
}

// checked: what Check says, worked out another way.
func checked(c cigar.Cigar) api.Errno {
	if len(c) >= 201 {
		return api.ErrMany
	}
	for _, o := range c {
		switch {
		case !strings.Contains("=DHIMNPSX", string([]byte{o.Kind})):
			return api.ErrKind
		case o.Len < 1, o.Len >= longest+1:
			return api.ErrRange
		}
	}
	_, read := summed(c, "=IMSX")
	_, ref := summed(c, "=DMNX")
	if !read || !ref {
		return api.ErrSize
	}
	return api.OK
}

// told: the text, worked out another way.
func told(c cigar.Cigar) string {
	var b strings.Builder
	for _, o := range c {
		fmt.Fprintf(&b, "%d%s", o.Len, []byte{o.Kind})
	}
	if b.Len() == 0 {
		return "*"
	}
	return b.String()
}

// parsed: what Parse says, worked out another way.
func parsed(s string) (cigar.Cigar, api.Errno) {
	if !aCigar.MatchString(s) {
		return nil, api.ErrCigar
	}
	var c cigar.Cigar
	for _, m := range anOp.FindAllStringSubmatch(s, -1) {
		n, _ := numbered(m[1], longest)
		c = append(c, cigar.Op{Len: n, Kind: m[2][0]})
	}
	if checked(c) != api.OK {
		return nil, api.ErrCigar
	}
	return c, api.OK
}

// isPlain: what Plain says, worked out another way.
func isPlain(c cigar.Cigar) bool {
	var b []byte
	for _, o := range c {
		b = append(b, o.Kind)
	}
	return !strings.ContainsAny(string(b), "=X") && !strings.Contains(string(b), "MM")
}

// alike: op by op, worked out another way; none is as none.
func alike(a, b cigar.Cigar) bool {
	return len(a) == 0 && len(b) == 0 || reflect.DeepEqual(a, b)
}

// isChecked: Check says so of ops.
func isChecked(t *testing.T, c cigar.Cigar, want api.Errno) {
	t.Helper()
	if e := c.Check(); e != want {
		t.Errorf("%.60q of %d ops: error %d, not %d", told(c), len(c), int(e), int(want))
	}
}

// isParsed: a text is these ops, or an error, and no ops beside it.
func isParsed(t *testing.T, s string, want cigar.Cigar, e api.Errno) {
	t.Helper()
	c, err := cigar.Parse(s)
	if err != e || !alike(c, want) || e != api.OK && len(c) != 0 {
		t.Errorf("%.60q of %d bytes is %.60q, not %.60q; error %d, not %d", s, len(s), told(c), told(want), int(err), int(e))
	}
}

// isNumber: a text is this number, or not.
func isNumber(t *testing.T, s string, most, want int, ok bool) {
	t.Helper()
	if n, is := cigar.Number(s, most); n != want || is != ok {
		t.Errorf("%q up to %d is %d, %v, not %d, %v", s, most, n, is, want, ok)
	}
}
