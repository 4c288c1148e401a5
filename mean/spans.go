package mean

import (
	"iter"
	"math/bits"

	"temple/api"
)

// points is a set of points of a text, from 0 to its length, one a bit.
type points uint64

// all tells each point of a set, from the least on.
func (p points) all() iter.Seq[int] {
	return func(yield func(point int) bool) {
		for left := p; left != 0; left &= left - 1 {
			if !yield(bits.TrailingZeros64(uint64(left))) {
				return
			}
		}
	}
}

// spans is a set of spans: it is asked both for all that begin at a point and
// for all that end at one.
type spans struct {
	from [api.MaxInput + 1]points
	to   [api.MaxInput + 1]points
}

func (s *spans) add(i, j int) {
	s.from[i] |= 1 << j
	s.to[j] |= 1 << i
}

func (s *spans) contains(i, j int) bool {
	return s.from[i]>>j&1 != 0
}
