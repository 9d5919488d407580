package contig_test

import (
	"strings"
	"testing"

	"scriptorium/api"
	"scriptorium/contig"
)

// TestText: P12.1; of each a line of > and the name, and a line of its letters.
func TestText(t *testing.T) {
	for _, c := range []struct {
		r    contig.Ref
		want string
	}{
		{contig.Ref{}, ""},
		{of("a", "ACGT"), ">a\nACGT\n"},
		{of("a", "ACGT", "b", "NN"), ">a\nACGT\n>b\nNN\n"},
		{of("b", "NN", "a", "ACGT"), ">b\nNN\n>a\nACGT\n"},
		{of(">", "A"), ">>\nA\n"},
		// Those that may not be are told as they are, too.
		{of("", ""), ">\n\n"},
		{of("a b", "x\x00"), ">a b\nx\x00\n"},
		{of("a", "A", "a", "A"), ">a\nA\n>a\nA\n"},
	} {
		if got := string(c.r.Text()); got != c.want {
			t.Errorf("%q, not %q", got, c.want)
		}
	}
}

// TestParse: P12.1; the same lines back.
func TestParse(t *testing.T) {
	isParsed(t, "", contig.Ref{}, api.OK)
	isParsed(t, ">a\nACGT\n", of("a", "ACGT"), api.OK)
	isParsed(t, ">a\nACGT\n>b\nNN\n", of("a", "ACGT", "b", "NN"), api.OK)
	isParsed(t, ">b\nNN\n>a\nACGT\n", of("b", "NN", "a", "ACGT"), api.OK)
	isParsed(t, ">>\nA\n>>a\nC\n>a>\nG\n", of(">", "A", ">a", "C", "a>", "G"), api.OK)
	isParsed(t, ">"+strings.Repeat("z", 254)+"\nT\n", of(strings.Repeat("z", 254), "T"), api.OK)
}

// TestForm: P12.1; ErrForm of what isn't such lines, each with its end, wherever it stands, and ahead of what is wrong with a contig.
func TestForm(t *testing.T) {
	for _, s := range []string{
		"\n", ">", ">a", ">a\n", ">a\nA", "a\nA\n", "a\n", "A", " >a\nA\n", "\n>a\nA\n", "\n\n", ">\n", "A\n>a\n", "\xef\xbb\xbf>a\nA\n",
		">a\nA\n\n", ">a\nA\n\n\n", ">a\nA\nC\n", ">a\nA\nC\nG\n", ">a\nA\n>b", ">a\nA\n>b\n", ">a\nA\n>b\nC", ">a\nA\nb\nC\n", ">a\nA\n ", ">a\n>b\nA\n", ">a\r>A\r", ">a\nA\n>", ">a\nA\n\x00",
		// With an error of a contig ahead.
		">\nA\n>b\nC", ">a\nA\n>a\nC\n>", ">a\n\n\n", ">a\nx\n>b\n", ">a\nx\nb\nC\n", "*\nA\n",
	} {
		isParsed(t, s, contig.Ref{}, api.ErrForm)
	}
}

// TestWrongContigs: P12.1; Check's errors of such lines.
func TestWrongContigs(t *testing.T) {
	for _, c := range []struct {
		text string
		want api.Errno
	}{
		{">\nA\n", api.ErrName}, {">a b\nA\n", api.ErrName}, {"> a\nA\n", api.ErrName}, {">a \nA\n", api.ErrName}, {">a\r\nA\n", api.ErrName}, {">*\n\n", api.ErrName}, {">a=\nA\n", api.ErrName}, {">" + strings.Repeat("z", 255) + "\nT\n", api.ErrName},
		{">a\nA\n>a\nA\n", api.ErrTwice}, {">a\nA\n>a\nx\n", api.ErrTwice},
		{">a\n\n", api.ErrSize}, {">a\nA\n>b\n\n", api.ErrSize},
		{">a\nA\r\n", api.ErrSeq}, {">a\nacgt\n", api.ErrSeq}, {">a\nACGU\n", api.ErrSeq}, {">a\n A\n", api.ErrSeq}, {">a\n>\n", api.ErrSeq}, {">a\n>b\n>c\nA\n", api.ErrSeq}, {">a\nA\x00\n", api.ErrSeq}, {">a\nx\n>\nA\n", api.ErrSeq},
	} {
		isParsed(t, c.text, contig.Ref{}, c.want)
	}
}

// TestParseMany: P12.1; up to 100; ErrMany above, behind ErrForm, ahead of Check's others.
func TestParseMany(t *testing.T) {
	isParsed(t, told(many(100)), many(100), api.OK)
	isParsed(t, told(many(101)), contig.Ref{}, api.ErrMany)
	isParsed(t, ">\n\n"+told(many(99)), contig.Ref{}, api.ErrName)
	isParsed(t, ">\n\n"+told(many(100)), contig.Ref{}, api.ErrMany)
	isParsed(t, told(many(101))+"x", contig.Ref{}, api.ErrForm)
	isParsed(t, told(many(101))+">", contig.Ref{}, api.ErrForm)
	isParsed(t, told(many(101))+">a\nA", contig.Ref{}, api.ErrForm)
	isParsed(t, strings.Repeat(">\n\n", 2097152/3), contig.Ref{}, api.ErrMany)
	isParsed(t, strings.Repeat(">\n\n", 2097152/3)+"\n", contig.Ref{}, api.ErrForm)
}

// TestParseSize: P12.1; 2097152 bytes at most, ahead of all else; so many letters at most, in all.
func TestParseSize(t *testing.T) {
	most := strings.Repeat("T", api.MaxBytes)
	isParsed(t, ">a\n"+most+"\n", of("a", most), api.OK)
	isParsed(t, ">a\n"+most+"T\n", contig.Ref{}, api.ErrSize)
	isParsed(t, ">a\nC\n>b\n"+most[1:]+"\n", of("a", "C", "b", most[1:]), api.OK)
	isParsed(t, ">a\nC\n>b\n"+most+"\n", contig.Ref{}, api.ErrSize)
	for _, c := range []struct {
		n    int
		want api.Errno
	}{{2097151, api.ErrName}, {2097152, api.ErrName}, {2097153, api.ErrSize}, {2097154, api.ErrSize}, {4194304, api.ErrSize}} {
		isParsed(t, ">\n"+strings.Repeat("T", c.n-3)+"\n", contig.Ref{}, c.want)
	}
	isParsed(t, strings.Repeat("x", 2097152), contig.Ref{}, api.ErrForm)
	isParsed(t, strings.Repeat("x", 2097153), contig.Ref{}, api.ErrSize)
	isParsed(t, strings.Repeat(">\n\n", 2097153/3+1), contig.Ref{}, api.ErrSize)
}

// TestShortTexts: P12.1; all of few bytes, held against the model.
func TestShortTexts(t *testing.T) {
	const from = ">\naA*"
	var all func(s string, left int)
	all = func(s string, left int) {
		want, e := parsed(s)
		isParsed(t, s, want, e)
		if left > 0 {
			for _, c := range from {
				all(s+string(c), left-1)
			}
		}
	}
	all("", 8)
}

// TestThereAndBack: P12.1; what is parsed is told as it was, and what may be is parsed as it is.
func TestThereAndBack(t *testing.T) {
	d := dice(121)
	from := signs()
	for range 3000 {
		var all []string
		for range d.below(6) {
			name := make([]byte, 1+d.below(3))
			for i := range name {
				name[i] = from[d.below(len(from))]
			}
			seq := make([]byte, 1+d.below(9))
			for i := range seq {
				seq[i] = "ACGTN"[d.below(5)]
			}
			all = append(all, string(name), string(seq))
		}
		r := of(all...)
		text := r.Text()
		if string(text) != told(r) {
			t.Fatalf("%q, not %q", text, told(r))
		}
		want, e := parsed(string(text))
		isParsed(t, string(text), want, e)
		if got, e := contig.Parse(text); e == api.OK && (!contig.Same(got, r) || string(got.Text()) != string(text)) {
			t.Fatalf("%q comes back as %q", text, got.Text())
		}
		if len(text) > 0 {
			text[d.below(len(text))] = ">\naA*=~\x00\xff"[d.below(9)]
			want, e := parsed(string(text))
			isParsed(t, string(text), want, e)
		}
	}
}
