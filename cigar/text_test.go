package cigar_test

import (
	"math"
	"strconv"
	"strings"
	"testing"

	"scriptorium/api"
	"scriptorium/cigar"
)

// TestNumber: P13.2; as it is printed, of at most ten digits.
func TestNumber(t *testing.T) {
	for _, n := range []int{0, 1, 2, 9, 10, 11, 19, 20, 99, 100, 101, 255, 256, 4095, 65535, 65536, 99999, 100000, longest, longest + 1, 999999999, 1000000000, 1 << 30, 1<<31 - 1, 1 << 31, 1<<32 - 1, 1 << 32, 1<<32 + 1, 9999999998, 9999999999} {
		isNumber(t, strconv.Itoa(n), math.MaxInt, n, true)
		isNumber(t, strconv.Itoa(n), n+1, n, true)
		isNumber(t, strconv.Itoa(n), n, n, true)
		isNumber(t, strconv.Itoa(n), n-1, n, false) // told beside false
		isNumber(t, strconv.Itoa(n), -1, n, false)
		isNumber(t, strconv.Itoa(n), math.MinInt, n, false)
		isNumber(t, "0"+strconv.Itoa(n), math.MaxInt, 0, false)
	}
}

// TestNoNumber: P13.2; what isn't a number is 0, false.
func TestNoNumber(t *testing.T) {
	for _, s := range []string{
		"", " ", "-", "+", "00", "01", "000", "0000000000", "0000000001", "-0", "-1", "+0", "+1", "+5", "-5", " 1", "1 ", "1\n", "1_0", "1_000", "0x1", "0b1", "0o7", "1e3", "1.0", "1.", ".1", "1,0", "a", "1a", "a1", "*", "１", "٣", "1\x00", "\x001", "\xff", "Inf", "NaN",
		"10000000000", "99999999999", "12345678901", "00000000001", "9223372036854775807", "9223372036854775808", "18446744073709551616", "18446744073709551617", "-9223372036854775808", strings.Repeat("1", 1000), strings.Repeat("0", 1000),
	} {
		for _, most := range []int{math.MinInt, -1, 0, 1, api.MaxInt, math.MaxInt} {
			isNumber(t, s, most, 0, false)
		}
	}
}

// TestNumberByTheModel: P13.2; all texts of up to four of some signs, and each byte among digits.
func TestNumberByTheModel(t *testing.T) {
	all := []string{""}
	for at := 0; at < len(all); at++ {
		all = grown(all, all[at], 4, "0", "1", "9", "-", "+", " ", "_", "a")
	}
	for _, s := range all {
		for _, most := range []int{-1, 0, 1, 99, 9999} {
			n, ok := numbered(s, most)
			isNumber(t, s, most, n, ok)
		}
	}
	for c := range 256 {
		one := string([]byte{byte(c)})
		for _, s := range []string{one, one + "1", "1" + one, "1" + one + "2"} {
			n, ok := numbered(s, math.MaxInt)
			isNumber(t, s, math.MaxInt, n, ok)
		}
	}
}

// grown: all texts, and those that are one more sign than s, if it has less than so many signs.
func grown(all []string, s string, most int, signs ...string) []string {
	if len(s) < most {
		for _, c := range signs {
			all = append(all, s+c)
		}
	}
	return all
}

// TestText: P13.2; a star, if there are none; else of each Len and Kind, of those that may not be, too.
func TestText(t *testing.T) {
	for _, c := range []struct {
		c    cigar.Cigar
		want string
	}{
		{nil, "*"}, {cigar.Cigar{}, "*"}, {of(3, 'M'), "3M"}, {of(3, 'M', 1, 'D', 2, 'M'), "3M1D2M"}, {of(2, 'S', 3, 'M', 1, 'D', 2, 'M'), "2S3M1D2M"}, {of(10, '=', 20, 'X', 30, 'P', 40, 'H', 50, 'N', 60, 'I'), "10=20X30P40H50N60I"}, {of(longest, 'M'), "268435455M"},
		{of(0, 'M'), "0M"}, {of(-3, 'M'), "-3M"}, {of(1, '*'), "1*"}, {of(7, 'é'), "7\xe9"}, {cigar.Cigar{{}}, "0\x00"}, {of(math.MaxInt, 'Z', math.MinInt, '5'), "9223372036854775807Z-92233720368547758085"}, {times(1000, 12, 'M'), strings.Repeat("12M", 1000)},
	} {
		if got := c.c.Text(); got != c.want {
			t.Errorf("%.60q, not %.60q", got, c.want)
		}
	}
}

// TestParse: P13.2; back, at the edges.
func TestParse(t *testing.T) {
	isParsed(t, "*", nil, api.OK)
	isParsed(t, "3M1D2M", of(3, 'M', 1, 'D', 2, 'M'), api.OK)
	isParsed(t, "1M2I3D4N5S6H7P8=9X", of(1, 'M', 2, 'I', 3, 'D', 4, 'N', 5, 'S', 6, 'H', 7, 'P', 8, '=', 9, 'X'), api.OK)
	isParsed(t, "3M2M", of(3, 'M', 2, 'M'), api.OK)
	isParsed(t, "100=", of(100, '='), api.OK)
	isParsed(t, "268435454M", of(longest-1, 'M'), api.OK)
	isParsed(t, "268435455M", of(longest, 'M'), api.OK)
	for _, k := range []byte("MIDNSHP=X") {
		for _, c := range []cigar.Cigar{times(1, 1, k), times(199, 12, k), times(200, 1, k), and(times(8, longest, k), times(1, 7, k))} {
			isParsed(t, told(c), c, api.OK)
		}
	}
	isParsed(t, strings.Repeat("268435455H", 200), times(200, longest, 'H'), api.OK)
	isParsed(t, strings.Repeat("1M1I", 100), and(parts(100, of(1, 'M', 1, 'I'))...), api.OK)
}

// parts: a cigar, so many times.
func parts(n int, c cigar.Cigar) []cigar.Cigar {
	var all []cigar.Cigar
	for range n {
		all = append(all, c)
	}
	return all
}

// TestWrongTexts: P13.2 and R3; ErrCigar, whatever is wrong, and no ops beside it.
func TestWrongTexts(t *testing.T) {
	for _, s := range []string{
		"", "M", "3", "03M", "00M", "0M", "1M0M", "0M1M", "-3M", "+3M", "3M-1D", "3 M", " 3M", "3M ", "3M\n", "3M\t1D", "3m", "3Z", "3MM", "3M1", "3M1D2", "M3", "3M*", "*3M", "**", "* ", " *", "*\n", "3M,1D", "3_0M", "1e1M", "0x3M", "3.0M", "=", "X", "5==", "é3M", "3éM", "3Mé", "3\xff", "\xff3M", "3\x00", "\x00", "３M", "3Ｍ",
		"268435456M", "268435460M", "300000000M", "999999999M", "1000000000M", "2147483647M", "4294967297M", "10000000001M", "18446744073709551617M", "1M268435456M", "268435456H", "0268435455M", strings.Repeat("1", 1000) + "M", strings.Repeat("0", 1000) + "1M", strings.Repeat("1", 1000), strings.Repeat("M", 1000),
		strings.Repeat("1M", 201), strings.Repeat("1H", 201), strings.Repeat("268435455P", 201), strings.Repeat("1M", 100000), strings.Repeat("1M", 200) + "*", strings.Repeat("1M", 200) + "1",
		strings.Repeat("268435455M", 8) + "8M", strings.Repeat("268435455M", 9), strings.Repeat("268435455I", 8) + "8S", strings.Repeat("268435455D", 8) + "8N", strings.Repeat("268435455=", 200),
	} {
		isParsed(t, s, nil, api.ErrCigar)
	}
}

// TestParseByTheModel: P13.2; all texts of up to six of some signs, and each byte among an op's.
func TestParseByTheModel(t *testing.T) {
	all := []string{""}
	for at := 0; at < len(all); at++ {
		all = grown(all, all[at], 6, "0", "1", "2", "M", "=", "*", "-")
	}
	took := 0
	for _, s := range all {
		c, e := parsed(s)
		isParsed(t, s, c, e)
		if e == api.OK {
			took++
		}
	}
	if took < 1000 {
		t.Errorf("%d of %d may be", took, len(all))
	}
	for c := range 256 {
		one := string([]byte{byte(c)})
		for _, s := range []string{one, one + "M", "1" + one, one + "1M", "1" + one + "M", "1M" + one, "1M2" + one, "12" + one + "3M"} {
			c, e := parsed(s)
			isParsed(t, s, c, e)
		}
	}
}

// TestThereAndBack: P13.2; what may be is told, and parsed as it was; what is parsed is told as it was.
func TestThereAndBack(t *testing.T) {
	d := dice(132)
	for range 20000 {
		var c cigar.Cigar
		for range d.below(12) {
			c = append(c, cigar.Op{Len: 1 + d.below(1<<d.below(28)), Kind: cigar.Kinds[d.below(9)]})
		}
		if c.Check() != api.OK {
			continue
		}
		isParsed(t, c.Text(), c, api.OK)
		s := []byte(c.Text())
		s[d.below(len(s))] = "0123456789MID*-"[d.below(15)]
		if back, e := cigar.Parse(string(s)); e == api.OK && (back.Text() != string(s) || back.Check() != api.OK) {
			t.Fatalf("%q is taken as %q", s, back.Text())
		}
	}
}
