package items

import "iter"

const bitsOfByte = 8

// set is a set of places by their numbers, one a bit; its bytes tell it from
// all others of the same grammar.
type set []byte

// none is the set of none of so many places.
func none(places int) set {
	return make(set, (places+bitsOfByte-1)/bitsOfByte)
}

func (s set) add(place int) {
	s[place/bitsOfByte] |= 1 << (place % bitsOfByte)
}

func (s set) has(place int) bool {
	return s[place/bitsOfByte]>>(place%bitsOfByte)&1 != 0
}

// join adds what another set has.
func (s set) join(other set) {
	for i, b := range other {
		s[i] |= b
	}
}

// all tells each place of a set, rising.
func (s set) all() iter.Seq[int] {
	return func(yield func(place int) bool) {
		for place := range len(s) * bitsOfByte {
			if s.has(place) && !yield(place) {
				return
			}
		}
	}
}
