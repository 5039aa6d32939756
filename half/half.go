// Package half tells where the leaves of a tree part in two; the layers that walk through one share it.
package half

import "math/bits"

// Of is how many of n leaves, 2 and more, the first half has: the greatest power of two below n. Fewer leaves don't part: 0.
func Of(n int) int {
	if n < 2 {
		return 0
	}
	return 1 << (bits.Len(uint(n-1)) - 1)
}
