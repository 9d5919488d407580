// Package codes keeps words of bits that were made, for those who put or take number by number: it stands beside the layers, above desc (layer 9) and below quill and lens.
package codes

import (
	"slices"

	"scriptorium/api"
	"scriptorium/desc"
	"scriptorium/huff"
)

// coded is a code, and the entries that it was made of.
type coded struct {
	entries []huff.Entry
	code    *huff.Code
}

// Kept are those that were made, by the keys of their entries: to make one takes much longer than to find it, and each number of a series asks for the same one.
type Kept struct {
	all map[string]coded
}

// Ints: d's Check; of Words the code, too. Of these Check is what New says of the entries, so that they needn't be looked through again where their code is kept.
func (k *Kept) Ints(d desc.Ints) (*huff.Code, api.Errno) {
	if d.Kind == desc.Words {
		return k.code(d.Entries)
	}
	return nil, d.Check()
}

// Arrays: d's Check; the number's code isn't looked through again, either.
func (k *Kept) Arrays(d desc.Arrays) api.Errno {
	if d.Ints.Kind == desc.Words {
		if _, ok := k.find(huff.Key(d.Entries), d.Entries); ok {
			// A way that may surely be stands for them, so that the rest is looked at in Check's own order.
			d.Ints = desc.Ints{Kind: desc.Fixed}
		}
	}
	return d.Check()
}

// code: that of entries, or huff's error.
func (k *Kept) code(l []huff.Entry) (*huff.Code, api.Errno) {
	key := huff.Key(l)
	if found, ok := k.find(key, l); ok {
		return found, api.OK
	}
	code, e := huff.New(l)
	if e != api.OK {
		return nil, e
	}
	if k.all == nil {
		k.all = map[string]coded{}
	}
	k.all[key] = coded{entries: slices.Clone(l), code: code}
	return code, api.OK
}

// find: the code of entries that have this key, if it is kept.
func (k *Kept) find(key string, l []huff.Entry) (*huff.Code, bool) {
	found, ok := k.all[key]
	// Keys tell entries apart that New takes; others might have the key of such, so the entries are looked at, too.
	if !ok || !slices.Equal(found.entries, l) {
		return nil, false
	}
	return found.code, true
}
