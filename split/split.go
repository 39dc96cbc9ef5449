// Package split holds what the layers of trees have in common: where the leaves of a tree are parted in two, and whether
// a proof is as long as it must be.
package split

import (
	"math/bits"

	"tabellion/api"
)

// At answers how many of n leaves stand on the left: the greatest power of 2 below n. Fewer than two leaves aren't
// parted: 0.
func At(n uint64) uint64 {
	if n < 2 {
		return 0
	}
	return 1 << (bits.Len64(n-1) - 1)
}

// Length tells whether a proof has as many hashes as it needs. ErrShort, ErrLong, if it has fewer, more.
func Length(has, needs int) api.Errno {
	if has < needs {
		return api.ErrShort
	}
	if has > needs {
		return api.ErrLong
	}
	return api.OK
}
