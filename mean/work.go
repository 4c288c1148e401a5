package mean

import (
	"temple/api"
	"temple/seqs"
	"temple/symbols"
)

// work is a table that is being filled, and what it is filled from.
type work struct {
	*Table
	g      api.Grammar
	w      string
	places []api.Place
	// whole is of each rule and conjunct the number of its rest at place 0.
	whole [][]int
	// needs is of each rule the names in its conjuncts.
	needs []nameSet
	// ahead is of each name the numbers of the rests at whose place it stands.
	ahead [][]int
}

// nameSet is a set of names, one a bit: there are no more than a word has.
type nameSet uint64

// begin is the work on a table in which nothing has a span yet.
func begin(g api.Grammar, w string) *work {
	places, _ := seqs.Places(g)
	k := &work{
		Table:  empty(len(g.Names), len(places), len(w)),
		g:      g,
		w:      w,
		places: places,
		whole:  make([][]int, len(g.Rules)),
		needs:  make([]nameSet, len(g.Rules)),
		ahead:  make([][]int, len(g.Names)),
	}
	for n, p := range places {
		k.lay(p, k.names+n)
	}
	return k
}

// empty is a table in which nothing has a span.
func empty(names, places, length int) *Table {
	all, width := names+places, length+1
	return &Table{
		length: length,
		names:  names,
		rests:  make(map[api.Place]int, places),
		has:    make([]spans, all),
		ranks:  make([]int32, all*width*width),
	}
}

// lay takes up a place, whose rest has a number.
func (k *work) lay(p api.Place, rest int) {
	k.rests[p] = rest
	if p.Pos == 0 {
		k.whole[p.Rule] = append(k.whole[p.Rule], rest)
	}
	if s, ok := symbols.At(k.g, p); ok && s.Name != symbols.NoName {
		k.needs[p.Rule] |= 1 << s.Name
		k.ahead[s.Name] = append(k.ahead[s.Name], rest)
	}
}

// holds: does a rule hold of a span, by what its rests have?
func (k *work) holds(rule, i, j int) bool {
	for conj, c := range k.g.Rules[rule].Conj {
		if k.has[k.whole[rule][conj]].contains(i, j) == c.Neg {
			return false
		}
	}
	return true
}
