// Package wire reads and writes bytes, the highest first: layer 1, see shared/doc/01-wire.md.
package wire

// widest is how many bytes a number has at most.
const widest = 8

// What a reader or a writer is asked to move.
const (
	aNumber = iota
	aList
)

// number is what numbers of both kinds go through calls as. A kind's own shift to the right tells whether a sign goes along.
type number interface {
	int64 | uint64
}

// cut keeps the lowest n bytes of x, and widens them again in the way of x's kind: n must be 1 to widest.
func cut[N number](x N, n int) N {
	gap := 8 * (widest - n)
	return x << gap >> gap
}

// isWidth tells whether a number can have n bytes.
func isWidth(n int) bool { return n >= 1 && n <= widest }

// fits tells whether a number can have n bytes, and x is none that loses something there.
func fits[N number](x N, n int) bool { return isWidth(n) && cut(x, n) == x }
