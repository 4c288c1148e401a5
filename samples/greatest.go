package samples

import "temple/api"

// Greatest is a grammar of as many names, rules, conjuncts and symbols as there
// can be, whose names, leaning on one another, have all texts of the bytes 'a'
// and 'b'.
func Greatest() api.Grammar {
	g := Named(api.MaxNames)
	for head := range api.MaxNames {
		on := func(n int) api.Symbol { return Ref((head + n) % api.MaxNames) }
		for _, conjuncts := range [][]api.Conjunct{
			{Row()},
			{Row(Span('a', 'b')), Row(Span('a', 'b'), on(2), on(3))},
			{Row(on(1), on(2), Span('a', 'b'), on(63)), Row(on(7), on(9))},
			{Row(on(0), on(5)), Row(on(1), on(63)), Row(on(3), on(4))},
		} {
			// What is not empty, or has no bytes, said once more.
			more := api.Conjunct{Neg: len(conjuncts) > 1}
			for len(conjuncts) < api.MaxConj {
				conjuncts = append(conjuncts, more)
			}
			g.Rules = append(g.Rules, Rule(head, conjuncts...))
		}
	}
	return g
}
