// Package engines: what the engines share of the grammars that they are made
// for. Its tests are those of all engines.
package engines

import (
	"slices"

	"temple/api"
	"temple/seqs"
	"temple/strata"
	"temple/symbols"
)

// Plan is a grammar as engines go through it; once laid, it stays as it is.
// Places have the numbers of their row (layer 10), so that the one ahead in a
// conjunct is one less, and the one behind one more.
type Plan struct {
	Start  int
	Places []Place
	Rules  []Rule
	// Levels is of each level the numbers of its names' rules.
	Levels [][]int
	// Begins is of each name the places 0 of its rules' conjuncts.
	Begins [][]int
	// Stands is of each name the places at which it stands.
	Stands [][]int
}

// Place is one in a rule's conjunct, and the symbol that stands at it, if it is
// not the end.
type Place struct {
	Rule    int
	IsFirst bool
	IsEnd   bool
	Symbol  api.Symbol
}

// Rule is what its head, the head's level, and its conjuncts, are.
type Rule struct {
	Head  int
	Level int
	Conj  []Conjunct
}

// Conjunct is told by its first place and its end.
type Conjunct struct {
	First int
	End   int
	Neg   bool
}

// Lay is the plan of g; false, if g may not be, or a cycle of it has a negation.
func Lay(g api.Grammar) (*Plan, bool) {
	levels, _, e := strata.Strata(g)
	if e != api.OK {
		return nil, false
	}
	p := &Plan{
		Start:  g.Start,
		Levels: make([][]int, slices.Max(levels)+1),
		Begins: make([][]int, len(g.Names)),
		Stands: make([][]int, len(g.Names)),
	}
	for n, r := range g.Rules {
		level := levels[r.Head]
		p.Rules = append(p.Rules, Rule{Head: r.Head, Level: level})
		p.Levels[level] = append(p.Levels[level], n)
	}
	places, _ := seqs.Places(g)
	for _, at := range places {
		p.lay(g, at)
	}
	return p, true
}

// lay takes up the next place.
func (p *Plan) lay(g api.Grammar, at api.Place) {
	number := len(p.Places)
	symbol, ok := symbols.At(g, at)
	p.Places = append(p.Places, Place{Rule: at.Rule, IsFirst: at.Pos == 0, IsEnd: !ok, Symbol: symbol})
	r := &p.Rules[at.Rule]
	if at.Pos == 0 {
		r.Conj = append(r.Conj, Conjunct{First: number, Neg: g.Rules[at.Rule].Conj[at.Conj].Neg})
		p.Begins[r.Head] = append(p.Begins[r.Head], number)
	}
	if !ok {
		r.Conj[at.Conj].End = number
	} else if symbol.Name != symbols.NoName {
		p.Stands[symbol.Name] = append(p.Stands[symbol.Name], number)
	}
}

// NameAt is the name that stands at a place; false, if there is none.
func (p *Plan) NameAt(place int) (int, bool) {
	at := p.Places[place]
	return at.Symbol.Name, !at.IsEnd && at.Symbol.Name != symbols.NoName
}
