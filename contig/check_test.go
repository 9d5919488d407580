package contig_test

import (
	"strings"
	"testing"

	"scriptorium/api"
	"scriptorium/contig"
)

// TestNames: P12.1; 1 to 254 signs from ! to ~, no = and no *.
func TestNames(t *testing.T) {
	all := signs()
	long := strings.Repeat("c", 254)
	for _, s := range []string{"a", "!", "~", "chr1", ">", "0", "a>b", ")", "+", "<", all, long, "~" + long[1:], long[1:] + "!", all + all + all[:254-2*len(all)]} {
		if !contig.Named(s) {
			t.Errorf("%q may be", s)
		}
	}
	for _, s := range []string{"", " ", "\x7f", "=", "*", "a b", "a=", "=a", "a*", "*a", "a\n", "\na", "a\t", "a\r", "a\x00", "\x80", "\xff", "é", "aé", "日本", "\xc3", "a\xc3", "\ufffd", "\u0141", "\U00010041", long + "c", strings.Repeat("c", 1000), long[1:] + " ", " " + long[1:], strings.Repeat("é", 127), strings.Repeat("é", 254)} {
		if contig.Named(s) {
			t.Errorf("%q may not be", s)
		}
	}
}

// TestEachSign: P12.1; each byte and many runes, alone, ahead, between and behind.
func TestEachSign(t *testing.T) {
	right := signs()
	for c := range 256 {
		one := string([]byte{byte(c)})
		for _, s := range []string{one, one + "a", "a" + one, "a" + one + "b"} {
			if contig.Named(s) != strings.Contains(right, one) {
				t.Errorf("%q: %v", s, contig.Named(s))
			}
		}
	}
	for r := rune(128); r < 0x20000; r++ {
		if contig.Named(string(r)) || contig.Named("a"+string(r)) {
			t.Errorf("%q may not be", r)
		}
	}
}

// TestNamesByLength: P12.1; of each length.
func TestNamesByLength(t *testing.T) {
	for n := range 600 {
		s := strings.Repeat("n", n)
		if contig.Named(s) != aName.MatchString(s) {
			t.Errorf("%d signs: %v", n, contig.Named(s))
		}
	}
}

// TestMayBe: P12.1; contigs that may be, at the edges.
func TestMayBe(t *testing.T) {
	most := strings.Repeat("ACGTN", api.MaxBytes/5) + "A"
	for _, r := range []contig.Ref{
		{}, {Contigs: []contig.Contig{}}, of("a", "A"), of("a", "ACGTN"), of("a", "N", "b", "NN"), of("b", "A", "a", "A"), of("a", "A", "A", "A", "aa", "A"),
		of("a", most), of("a", most[1:], "b", "T"), of("a", "T", "b", most[1:]), of("a", most[:1<<19], "b", most[:1<<19]),
		of(strings.Repeat("~", 254), "G", strings.Repeat("~", 253), "G"), many(99), many(100), of(">", "A"),
	} {
		isChecked(t, r, api.OK)
	}
}

// TestMany: P12.1; ErrMany above 100, ahead of all else.
func TestMany(t *testing.T) {
	isChecked(t, many(101), api.ErrMany)
	isChecked(t, many(250), api.ErrMany)
	isChecked(t, contig.Ref{Contigs: make([]contig.Contig, 100)}, api.ErrName)
	isChecked(t, contig.Ref{Contigs: make([]contig.Contig, 101)}, api.ErrMany)
	isChecked(t, contig.Ref{Contigs: append(many(100).Contigs, contig.Contig{})}, api.ErrMany)
}

// TestWrong: P12.1; each error of a contig, wherever it stands.
func TestWrong(t *testing.T) {
	most := strings.Repeat("ACGTN", api.MaxBytes/5) + "A"
	for _, c := range []struct {
		r    contig.Ref
		want api.Errno
	}{
		{of("", "A"), api.ErrName}, {of("*", "A"), api.ErrName}, {of("a=b", "A"), api.ErrName}, {of("a b", "A"), api.ErrName}, {of(strings.Repeat("c", 255), "A"), api.ErrName}, {of("a", "A", "é", "A"), api.ErrName},
		{of("a", "A", "a", "A"), api.ErrTwice}, {of("a", "A", "b", "A", "a", "C"), api.ErrTwice}, {of("a", "A", "b", "A", "b", "C"), api.ErrTwice},
		{of("a", ""), api.ErrSize}, {of("a", "A", "b", ""), api.ErrSize}, {of("a", most+"A"), api.ErrSize}, {of("a", most, "b", "A"), api.ErrSize}, {of("a", "A", "b", most), api.ErrSize}, {of("a", most[:1<<19], "b", most[:1<<19], "c", "G"), api.ErrSize},
		{of("a", "a"), api.ErrSeq}, {of("a", "ACGU"), api.ErrSeq}, {of("a", "UACG"), api.ErrSeq}, {of("a", "A", "b", "AC T"), api.ErrSeq}, {of("a", "A\nC"), api.ErrSeq}, {of("a", most[1:]+"n"), api.ErrSeq}, {of("a", "A\x00"), api.ErrSeq}, {of("a", "=", "b", "A"), api.ErrSeq},
	} {
		isChecked(t, c.r, c.want)
	}
}

// TestEachLetter: P12.1; A, C, G, T, N and no other byte, ahead, between and behind.
func TestEachLetter(t *testing.T) {
	for c := range 256 {
		one := string([]byte{byte(c)})
		want := api.ErrSeq
		if strings.Contains("ACGTN", one) {
			want = api.OK
		}
		for _, s := range []string{one, one + "A", "A" + one, "A" + one + "C"} {
			isChecked(t, of("a", s), want)
			isChecked(t, of("a", "C", "b", s), want)
		}
	}
}

// TestOrder: P12.1 and R2; contig by contig, and of each the name, then whether it came, then how many letters, then which.
func TestOrder(t *testing.T) {
	most := strings.Repeat("G", api.MaxBytes)
	for _, c := range []struct {
		r    contig.Ref
		want api.Errno
	}{
		{of("*", ""), api.ErrName}, {of("*", "x"), api.ErrName}, {of("a", "A", "", "", "", ""), api.ErrName}, {of("*", most+"x"), api.ErrName}, {of("*", "A", "*", "A"), api.ErrName},
		{of("a", "A", "a", ""), api.ErrTwice}, {of("a", "A", "a", "x"), api.ErrTwice}, {of("a", "A", "a", most), api.ErrTwice}, {of("a", most, "a", "A"), api.ErrTwice},
		{of("a", most+"x"), api.ErrSize}, {of("a", "A", "b", most[1:]+"x"), api.ErrSize}, {of("a", most, "b", ""), api.ErrSize},
		// The first contig with an error has it.
		{of("a", "", "*", "A"), api.ErrSize}, {of("a", "x", "*", "A"), api.ErrSeq}, {of("a", "x", "a", "A"), api.ErrSeq}, {of("a", "x", "b", ""), api.ErrSeq}, {of("a", "x", "b", most), api.ErrSeq},
		{of("a", "", "a", ""), api.ErrSize}, {of("a", "A", "a", "A", "*", "A"), api.ErrTwice}, {of("a", most, "b", "A", "*", "A"), api.ErrSize}, {of("a", "A", "b", "", "c", "x"), api.ErrSize},
	} {
		isChecked(t, c.r, c.want)
	}
}

// TestCheckByTheModel: P12.1; rows of contigs of few names and few letters, right and wrong.
func TestCheckByTheModel(t *testing.T) {
	d := dice(12)
	names := []string{"a", "b", "c", "d", "e", "f", "a b", ""}
	letters := []string{"A", "CG", "TTN", "NNNN", "GATTACA", "C", "", "x", "Ax"}
	half := strings.Repeat("A", 1<<19)
	got := map[api.Errno]int{}
	for round := range 20000 {
		var all []string
		for range d.below(5) {
			all = append(all, names[d.below(len(names))], letters[d.below(len(letters))])
			if round%200 == 0 && d.below(2) == 0 { // rarely, since it takes long
				all[len(all)-1] = half
			}
		}
		r := of(all...)
		want := checked(r)
		got[want]++
		isChecked(t, r, want)
	}
	for _, e := range []api.Errno{api.OK, api.ErrName, api.ErrTwice, api.ErrSize, api.ErrSeq} {
		if got[e] < 500 {
			t.Errorf("error %d came %d times", int(e), got[e])
		}
	}
}
