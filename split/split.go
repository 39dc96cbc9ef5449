// Package split holds what all layers of trees have in common: where the leaves of a tree are parted in two.
package split

import "math/bits"

// At answers how many of n leaves stand on the left: the greatest power of 2 below n. Fewer than two leaves aren't
// parted: 0.
func At(n uint64) uint64 {
	if n < 2 {
		return 0
	}
	return 1 << (bits.Len64(n-1) - 1)
}
