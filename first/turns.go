package first

import (
	"slices"

	"temple/api"
	"temple/byteset"
	"temple/symbols"
)

// settle gives each conjunct, negated or not, a turn with its rule's head,
// round by round, till a round changes nothing.
func settle(g api.Grammar, turn func(head int, row []api.Symbol) bool) {
	for changed := true; changed; {
		changed = false
		for _, r := range g.Rules {
			for _, c := range r.Conj {
				changed = turn(r.Head, c.Seq) || changed
			}
		}
	}
}

// empties is of each name whether it may come to nothing.
func empties(g api.Grammar) []bool {
	empty := make([]bool, len(g.Names))
	settle(g, func(head int, row []api.Symbol) bool {
		if empty[head] || !symbols.AllMarked(row, empty) {
			return false
		}
		empty[head] = true
		return true
	})
	return empty
}

// beginnings is how names may begin: whether with nothing, and with what bytes.
type beginnings struct {
	empty []bool
	bytes []api.Bytes
}

// begin is how the names of a grammar may begin.
func begin(g api.Grammar) beginnings {
	b := beginnings{empties(g), make([]api.Bytes, len(g.Names))}
	settle(g, func(head int, row []api.Symbol) bool {
		var coming api.Follow
		for _, s := range slices.Backward(row) {
			coming = b.ahead(s, coming)
		}
		all := byteset.Or(b.bytes[head], coming.Bytes)
		changed := all != b.bytes[head]
		b.bytes[head] = all
		return changed
	})
	return b
}

// ahead is what may come where s stands ahead of what is coming.
func (b beginnings) ahead(s api.Symbol, coming api.Follow) api.Follow {
	if s.Name == symbols.NoName {
		// A grammar that may be has no ends that are the wrong way round.
		bytes, _ := byteset.Range(s.Lo, s.Hi)
		return api.Follow{Bytes: bytes}
	}
	if !b.empty[s.Name] {
		return api.Follow{Bytes: b.bytes[s.Name]}
	}
	return api.Follow{Bytes: byteset.Or(b.bytes[s.Name], coming.Bytes), End: coming.End}
}

// follows is of each name what may come behind it.
func follows(g api.Grammar, b beginnings) []api.Follow {
	behind := make([]api.Follow, len(g.Names))
	behind[g.Start].End = true
	settle(g, func(head int, row []api.Symbol) bool {
		changed := false
		coming := behind[head]
		for _, s := range slices.Backward(row) {
			if s.Name != symbols.NoName {
				changed = take(&behind[s.Name], coming) || changed
			}
			coming = b.ahead(s, coming)
		}
		return changed
	})
	return behind
}

// take adds what is coming to what is known; false, if nothing changes.
func take(known *api.Follow, coming api.Follow) bool {
	all := api.Follow{
		Bytes: byteset.Or(known.Bytes, coming.Bytes),
		End:   known.End || coming.End,
	}
	changed := all != *known
	*known = all
	return changed
}
