// Package sum: see doc/01-sum.md.
package sum

import (
	"bytes"

	"bottlepost/api"
)

// Check says whether the blocks can be added to each other: each of a length that may be, and all of one length.
func Check(l ...api.Block) api.Errno {
	for _, b := range l {
		if len(b) < 1 || len(b) > api.MaxBlock {
			return api.ErrMany
		}
		if len(b) != len(l[0]) {
			return api.ErrForm
		}
	}
	return api.OK
}

// Add answers the sum of the blocks, bit by bit and without carry.
func Add(l ...api.Block) (api.Block, api.Errno) {
	if e := Check(l...); e != api.OK {
		return nil, e
	}
	// Of no blocks it can't be said how long their sum is.
	if len(l) == 0 {
		return nil, api.ErrShort
	}
	total := make(api.Block, len(l[0]))
	for _, b := range l {
		addTo(total, b)
	}
	return total, api.OK
}

// addTo changes total alone; b must be as long.
func addTo(total, b api.Block) {
	for i, x := range b {
		total[i] ^= x
	}
}

// Same says whether two blocks have the same bytes; a nil one is like an empty one.
func Same(a, b api.Block) bool {
	return bytes.Equal(a, b)
}
