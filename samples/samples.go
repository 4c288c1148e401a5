// Package samples: grammars, and what has a proof's form, for the tests of the
// layers that take them. No layer calls it.
package samples

import (
	"slices"
	"strconv"

	"temple/api"
	"temple/symbols"
)

// Ref is the symbol of a name's number.
func Ref(n int) api.Symbol {
	return api.Symbol{Name: n}
}

// Span is the symbol of a range of bytes.
func Span(lo, hi int) api.Symbol {
	return api.Symbol{Name: symbols.NoName, Lo: lo, Hi: hi}
}

// Row is a conjunct of some symbols.
func Row(symbols ...api.Symbol) api.Conjunct {
	return api.Conjunct{Seq: slices.Clone(symbols)}
}

// RowNot is a negated conjunct of some symbols.
func RowNot(symbols ...api.Symbol) api.Conjunct {
	return api.Conjunct{Neg: true, Seq: slices.Clone(symbols)}
}

// Rule is an alternative of a name.
func Rule(head int, conjuncts ...api.Conjunct) api.Rule {
	return api.Rule{Head: head, Conj: slices.Clone(conjuncts)}
}

// Named is a grammar of so many names and some rules.
func Named(names int, rules ...api.Rule) api.Grammar {
	g := api.Grammar{Rules: slices.Clone(rules)}
	for i := range names {
		g.Names = append(g.Names, "n"+strconv.Itoa(i))
	}
	return g
}

// Plain is a small grammar that may be, in which no cycle has a negation.
func Plain() api.Grammar {
	return api.Grammar{
		Start: 1,
		Names: []string{"S", "T"},
		Rules: []api.Rule{
			Rule(0, Row(Ref(1), Span('a', 'z'), Ref(0)), RowNot(Ref(1))),
			Rule(0, Row()),
			Rule(1, RowNot(Span(0, 255), Span('x', 'x'))),
		},
	}
}

// Numbers is a row of numbers that looks like chance and is always the same.
type Numbers uint64

// Next is the next number of the row, from 0 below n.
func (r *Numbers) Next(n int) int {
	*r = *r*6364136223846793005 + 1442695040888963407
	return int(uint64(*r) >> 33 % uint64(n))
}

// Symbol is any symbol, more often a name than a range.
func (r *Numbers) Symbol(names int) api.Symbol {
	if r.Next(3) > 0 {
		return Ref(r.Next(names))
	}
	lo := r.Next(256)
	return Span(lo, lo+r.Next(256-lo))
}

// Conjunct is any conjunct of up to three symbols.
func (r *Numbers) Conjunct(names int) api.Conjunct {
	c := api.Conjunct{Neg: r.Next(2) == 0}
	for range r.Next(4) {
		c.Seq = append(c.Seq, r.Symbol(names))
	}
	return c
}

// Grammar is any grammar that may be, of up to so many names.
func (r *Numbers) Grammar(most int) api.Grammar {
	g := Named(1 + r.Next(most))
	names := len(g.Names)
	g.Start = r.Next(names)
	for head := range names {
		for range 1 + r.Next(3) {
			x := Rule(head)
			for range 1 + r.Next(3) {
				x.Conj = append(x.Conj, r.Conjunct(names))
			}
			g.Rules = append(g.Rules, x)
		}
	}
	return g
}
