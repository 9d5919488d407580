package desc_test

import (
	"testing"

	"scriptorium/desc"
	"scriptorium/huff"
)

// full: a way with something in each field.
func full() desc.Ints {
	return desc.Ints{Kind: desc.Words, Block: 7, Entries: entries(1, 2, 5, 2), Least: 3, Bits: 4}
}

// otherInts: ways that differ from full in one field each, in what belongs to its kind and in what doesn't.
func otherInts() []desc.Ints {
	var all []desc.Ints
	with := func(change func(d *desc.Ints)) {
		d := full()
		change(&d)
		all = append(all, d)
	}
	with(func(d *desc.Ints) { d.Kind = desc.Fixed })
	with(func(d *desc.Ints) { d.Kind = 0 })
	with(func(d *desc.Ints) { d.Block = 8 })
	with(func(d *desc.Ints) { d.Block += 1 << 32 })
	with(func(d *desc.Ints) { d.Least = -3 })
	with(func(d *desc.Ints) { d.Bits = 5 })
	with(func(d *desc.Ints) { d.Entries = nil })
	with(func(d *desc.Ints) { d.Entries = d.Entries[:1] })
	with(func(d *desc.Ints) { d.Entries = append(d.Entries, huff.Entry{}) })
	with(func(d *desc.Ints) { d.Entries[0].Symbol = 0 })
	with(func(d *desc.Ints) { d.Entries[1].Size = 3 })
	with(func(d *desc.Ints) { d.Entries[0], d.Entries[1] = d.Entries[1], d.Entries[0] })
	return all
}

// sameInts, sameArrays: asked in both directions, which must agree.
func sameInts(t *testing.T, a, b desc.Ints, want bool) {
	t.Helper()
	if desc.SameInts(a, b) != want || desc.SameInts(b, a) != want {
		t.Errorf("%v and %v: not %v", a, b, want)
	}
}

func sameArrays(t *testing.T, a, b desc.Arrays, want bool) {
	t.Helper()
	if desc.SameArrays(a, b) != want || desc.SameArrays(b, a) != want {
		t.Errorf("%v and %v: not %v", a, b, want)
	}
}

// TestSameInts: P9.2; in all, each field alone.
func TestSameInts(t *testing.T) {
	sameInts(t, full(), full(), true)
	sameInts(t, desc.Ints{}, desc.Ints{}, true)
	for i, d := range otherInts() {
		sameInts(t, full(), d, false)
		for j, other := range otherInts() {
			sameInts(t, d, other, i == j)
		}
	}
}

// TestSameArrays: P9.2; the bytes' kind and block aren't their number's.
func TestSameArrays(t *testing.T) {
	whole := func() desc.Arrays {
		return desc.Arrays{Ints: full(), Kind: desc.Count, Block: 7, Stop: 9}
	}
	all := []desc.Arrays{whole(), whole(), whole(), whole(), {}}
	all[0].Kind = desc.Stopped
	all[1].Block = 8
	all[2].Stop = 0
	all[3].Kind, all[3].Ints.Kind = desc.Words, desc.Count
	for _, d := range otherInts() {
		x := whole()
		x.Ints = d
		all = append(all, x)
	}
	sameArrays(t, whole(), whole(), true)
	for i, d := range all {
		sameArrays(t, whole(), d, false)
		for j, other := range all {
			sameArrays(t, d, other, i == j)
		}
	}
	swapped := counted(1, outside(2))
	sameArrays(t, swapped, counted(2, outside(1)), false)
}

// TestSameOfNilAndEmpty: R5.
func TestSameOfNilAndEmpty(t *testing.T) {
	a, b := words(nil), words([]huff.Entry{})
	sameInts(t, a, b, true)
	sameArrays(t, counted(3, a), counted(3, b), true)
}

// TestSameOfWays: P9.2; all samples, each with itself alone.
func TestSameOfWays(t *testing.T) {
	for i, a := range arrays() {
		for j, b := range arrays() {
			if desc.SameArrays(a, b) != (i == j) {
				t.Errorf("%v and %v: %v", a, b, i != j)
			}
		}
	}
}
