package samples

import (
	"slices"

	"temple/api"
)

// Heavy is grammars of as many names, conjuncts or symbols as there can be, in
// which much is to be passed on.
func Heavy() []api.Grammar {
	var out []api.Grammar
	for _, step := range []int{1, 7, api.MaxNames - 1} {
		out = append(out, ringOfAll(step), pairsOfAll(step), levelsOfAll(step))
	}
	full := Row(slices.Repeat([]api.Symbol{Ref(0)}, api.MaxSeq)...)
	return append(out,
		Greatest(),
		Named(1, Rule(0, full, Row(Span('a', 'b'))), Rule(0, full), Rule(0, Row()), Rule(0, Row(Span('b', 'z')))),
		Named(1, Rule(0, slices.Repeat([]api.Conjunct{full}, api.MaxConj)...), Rule(0, Row()), Rule(0, Row(Span('a', 'c')))),
	)
}

// ringOfAll leads from name to name, in each of many conjuncts, so that each
// point that one has is passed on through all others.
func ringOfAll(step int) api.Grammar {
	g := Named(api.MaxNames)
	for head := range api.MaxNames {
		next := Ref((head + step) % api.MaxNames)
		for range 3 {
			g.Rules = append(g.Rules, Rule(head, slices.Repeat([]api.Conjunct{Row(next)}, 5)...))
		}
		if head == api.MaxNames/2 {
			g.Rules = append(g.Rules, Rule(head, Row(Ref(head), Span('a', 'c'))), Rule(head, Row(Span('a', 'b'))), Rule(head, Row()))
		}
	}
	return g
}

// pairsOfAll has two names of a ring in each conjunct, and many empty texts.
func pairsOfAll(step int) api.Grammar {
	g := Named(api.MaxNames)
	for head := range api.MaxNames {
		next, over := Ref((head+step)%api.MaxNames), Ref((head+2*step)%api.MaxNames)
		g.Rules = append(g.Rules, Rule(head, Row(next, over), Row(over, next)), Rule(head, Row(next, next, next)), Rule(head, Row(over)))
		if head == 0 {
			g.Rules = append(g.Rules, Rule(head, Row(Span('b', 'b'))), Rule(head, Row()))
		}
	}
	return g
}

// levelsOfAll is of names each of which is not what the one behind it is, with
// some bytes more, or fewer.
func levelsOfAll(step int) api.Grammar {
	g := Named(api.MaxNames)
	for head := range api.MaxNames {
		below := Ref(max(0, head-step))
		if head == 0 {
			below = Span('a', 'a')
		}
		g.Rules = append(g.Rules,
			Rule(head, RowNot(below), RowNot(Span('b', 'b'), below)),
			Rule(head, Row(Span('a', 'b'), Ref(head)), RowNot(below, Span('c', 'c'))),
			Rule(head, Row(below, Span('c', 'c')), Row(Span('a', 'c'), Ref(head))))
	}
	return g
}
