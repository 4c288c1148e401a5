// Package points: sets of points of a text, as the layers share them. A point
// is a number from 0 to the text's length.
package points

import (
	"iter"
	"math/bits"
)

// Set is a set of points, one a bit: a text has fewer of them than a word has
// bits.
type Set uint64

// One is the set of one point.
func One(point int) Set {
	return 1 << point
}

// UpTo is the set of all points from 0 to one.
func UpTo(point int) Set {
	return 2<<point - 1
}

// Has: is a point in the set?
func (s Set) Has(point int) bool {
	return s>>point&1 != 0
}

// All tells each point of the set, from the least on.
func (s Set) All() iter.Seq[int] {
	return func(yield func(point int) bool) {
		for left := s; left != 0; left &= left - 1 {
			if !yield(bits.TrailingZeros64(uint64(left))) {
				return
			}
		}
	}
}
