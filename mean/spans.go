package mean

import (
	"temple/api"
	"temple/points"
)

// spans is a set of spans: it is asked both for all that begin at a point and
// for all that end at one.
type spans struct {
	from [api.MaxInput + 1]points.Set
	to   [api.MaxInput + 1]points.Set
}

func (s *spans) add(i, j int) {
	s.from[i] |= points.One(j)
	s.to[j] |= points.One(i)
}

func (s *spans) contains(i, j int) bool {
	return s.from[i].Has(j)
}
