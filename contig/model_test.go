package contig_test

import (
	"bytes"
	"regexp"
	"strings"
	"testing"

	"scriptorium/api"
	"scriptorium/contig"
)

// dice are numbers that look like chance and are the same at each run.
type dice uint64

func (d *dice) below(n int) int {
	*d = *d*6364136223846793005 + 1442695040888963407
	return int(uint64(*d>>33) % uint64(n))
}

// of: contigs, of a name and its letters, of the next name and its letters, and so on.
func of(all ...string) contig.Ref {
	var r contig.Ref
	for i := 0; i < len(all); i += 2 {
		r.Contigs = append(r.Contigs, contig.Contig{Name: all[i], Seq: []byte(all[i+1])})
	}
	return r
}

// many: so many contigs of one letter each, none with the name of another.
func many(n int) contig.Ref {
	var all []string
	for i := range n {
		all = append(all, "c"+strings.Repeat("x", i), "A")
	}
	return of(all...)
}

// signs: those that a name may have.
func signs() string {
	var b []byte
	for c := byte('!'); c <= '~'; c++ {
		if c != '=' && c != '*' {
			b = append(b, c)
		}
	}
	return string(b)
}

var (
	aName    = regexp.MustCompile(`\A[!-)+-<>-~]{1,254}\z`)
	somewhat = regexp.MustCompile(`\A[ACGTN]+\z`)
	aText    = regexp.MustCompile(`\A(>[^\n]*\n[^\n]*\n)*\z`)
)

// checked: what Check says, worked out another way.
func checked(r contig.Ref) api.Errno {
	if len(r.Contigs) >= 101 {
		return api.ErrMany
	}
	seen := map[string]int{}
	var all []byte
	for _, c := range r.Contigs {
		all = append(all, c.Seq...)
		seen[c.Name]++
		switch {
		case !aName.MatchString(c.Name):
			return api.ErrName
		case seen[c.Name] == 2:
			return api.ErrTwice
		case len(c.Seq) == 0, len(all) >= 1048577:
			return api.ErrSize
		case !somewhat.Match(c.Seq):
			return api.ErrSeq
		}
	}
	return api.OK
}

// parsed: what Parse says, worked out another way.
func parsed(text string) (contig.Ref, api.Errno) {
	if len(text) >= 2097153 {
		return contig.Ref{}, api.ErrSize
	}
	if !aText.MatchString(text) {
		return contig.Ref{}, api.ErrForm
	}
	var all []string
	for i, line := range strings.SplitAfter(text, "\n") {
		if line = strings.TrimSuffix(line, "\n"); i%2 == 0 {
			line = strings.TrimPrefix(line, ">")
		}
		all = append(all, line)
	}
	r := of(all[:len(all)-1]...)
	if e := checked(r); e != api.OK {
		return contig.Ref{}, e
	}
	return r, api.OK
}

// told: the text, worked out another way.
func told(r contig.Ref) string {
	var lines []string
	for _, c := range r.Contigs {
		lines = append(lines, ">"+c.Name, string(c.Seq))
	}
	return strings.Join(append(lines, ""), "\n")
}

// alike: by their names and letters, worked out another way.
func alike(a, b contig.Ref) bool {
	for len(a.Contigs) > 0 && len(b.Contigs) > 0 {
		c, d := a.Contigs[0], b.Contigs[0]
		if c.Name != d.Name || string(c.Seq) != string(d.Seq) {
			return false
		}
		a.Contigs, b.Contigs = a.Contigs[1:], b.Contigs[1:]
	}
	return len(a.Contigs) == len(b.Contigs)
}

// copied: the same contigs in memory of its own.
func copied(r contig.Ref) contig.Ref {
	var out contig.Ref
	for _, c := range r.Contigs {
		out.Contigs = append(out.Contigs, contig.Contig{Name: strings.Clone(c.Name), Seq: bytes.Clone(c.Seq)})
	}
	return out
}

// isParsed: a text is these contigs, or an error, and no contigs beside it.
func isParsed(t *testing.T, text string, want contig.Ref, e api.Errno) {
	t.Helper()
	got, err := contig.Parse([]byte(text))
	if err != e || !alike(got, want) || e != api.OK && got.Contigs != nil {
		t.Errorf("%.60q of %d bytes: %d contigs, not %d; error %d, not %d", text, len(text), len(got.Contigs), len(want.Contigs), int(err), int(e))
	}
}

// isChecked: Check says so of contigs.
func isChecked(t *testing.T, r contig.Ref, want api.Errno) {
	t.Helper()
	if e := r.Check(); e != want {
		t.Errorf("%.120q: error %d, not %d", told(r), int(e), int(want))
	}
}
