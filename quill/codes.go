package quill

import (
	"slices"

	"scriptorium/api"
	"scriptorium/huff"
)

// coded is a code, and the entries that it was made of.
type coded struct {
	entries []huff.Entry
	code    *huff.Code
}

// codes keeps those that were made, by the keys of their entries: to make one takes much longer than to find it, and each number of a series asks for the same one.
type codes struct {
	kept map[string]coded
}

// of: the code of entries, or huff's error.
func (c *codes) of(l []huff.Entry) (*huff.Code, api.Errno) {
	key := huff.Key(l)
	// Keys tell entries apart that New takes; others might have the key of such, so the entries are looked at, too.
	if found, ok := c.kept[key]; ok && slices.Equal(found.entries, l) {
		return found.code, api.OK
	}
	code, e := huff.New(l)
	if e != api.OK {
		return nil, e
	}
	if c.kept == nil {
		c.kept = map[string]coded{}
	}
	c.kept[key] = coded{entries: slices.Clone(l), code: code}
	return code, api.OK
}
