package table

import (
	"slices"

	"temple/api"
	"temple/seqs"
	"temple/symbols"
)

// plan is what an engine knows of its grammar; once laid, it stays as it is.
// Places have the numbers of their row (layer 10), so that the one ahead in a
// conjunct is one less.
type plan struct {
	start  int
	places []place
	rules  []rule
	// ends is the places behind the last symbols of conjuncts.
	ends []int
	// levels is of each level the numbers of its names' rules.
	levels [][]int
	// stands is of each name the places at which it stands.
	stands [][]int
}

// place is one in a rule's conjunct, and the symbol that stands at it, if it is
// not the end.
type place struct {
	rule    int
	isFirst bool
	symbol  api.Symbol
}

// rule is what its head's level, and its conjuncts, are.
type rule struct {
	head  int
	level int
	conj  []conjunct
}

// conjunct is told by its first place.
type conjunct struct {
	first int
	neg   bool
}

// lay is the plan of a grammar whose names have levels.
func lay(g api.Grammar, levels []int) *plan {
	p := &plan{
		start:  g.Start,
		levels: make([][]int, slices.Max(levels)+1),
		stands: make([][]int, len(g.Names)),
	}
	for n, r := range g.Rules {
		level := levels[r.Head]
		p.rules = append(p.rules, rule{head: r.Head, level: level})
		p.levels[level] = append(p.levels[level], n)
	}
	places, _ := seqs.Places(g)
	for _, at := range places {
		p.layPlace(g, at)
	}
	return p
}

// layPlace takes up the next place.
func (p *plan) layPlace(g api.Grammar, at api.Place) {
	number := len(p.places)
	symbol, ok := symbols.At(g, at)
	if !ok {
		p.ends = append(p.ends, number)
	} else if symbol.Name != symbols.NoName {
		p.stands[symbol.Name] = append(p.stands[symbol.Name], number)
	}
	if at.Pos == 0 {
		r := &p.rules[at.Rule]
		r.conj = append(r.conj, conjunct{first: number, neg: g.Rules[at.Rule].Conj[at.Conj].Neg})
	}
	p.places = append(p.places, place{rule: at.Rule, isFirst: at.Pos == 0, symbol: symbol})
}
