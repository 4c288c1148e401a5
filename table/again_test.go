package table_test

import (
	"slices"
	"strings"
	"testing"

	"temple/api"
	"temple/mean"
	"temple/samples"
	"temple/strata"
)

// TestAllSmallGrammars: two names with rules of the conjuncts that they and a
// byte can make, held against layer 11.
func TestAllSmallGrammars(t *testing.T) {
	var all []api.Conjunct
	for _, seq := range [][]api.Symbol{
		{}, {ref(0)}, {ref(1)}, {span('a', 'a')}, {ref(0), ref(1)}, {span('a', 'b'), ref(1)}, {ref(1), span('b', 'b'), ref(0)},
	} {
		all = append(all, row(seq...), rowNot(seq...))
	}
	told, cycles := 0, 0
	samples.EachChoice(3, len(all), func(chosen []int) {
		a, b, c := all[chosen[0]], all[chosen[1]], all[chosen[2]]
		for _, g := range []api.Grammar{
			named(2, rule(0, a), rule(0, b), rule(1, c)),
			named(2, rule(0, a, b), rule(1, c)),
		} {
			if _, _, e := strata.Strata(g); e != api.OK {
				wantNone(t, "a cycle", g)
				cycles++
				continue
			}
			wantMean(t, g, "abba")
			wantMean(t, g, "bab")
			told++
		}
	})
	if told < 1000 || cycles < 500 {
		t.Errorf("%d told, %d cycles", told, cycles)
	}
}

// TestMixedGrammars: grammars with levels, rings and empty texts, held against
// layer 11.
func TestMixedGrammars(t *testing.T) {
	r := samples.Numbers(151)
	either := 0
	for range 3000 {
		g, w := r.Leveled(5), r.Text(8)
		wantMean(t, g, w)
		if means, _ := mean.New(g, w); means.Has(g.Start, 0, len(w)) != means.Has(g.Start, 0, 0) {
			either++
		}
	}
	if either < 500 {
		t.Errorf("%d with either", either)
	}
	for range 20 {
		g := r.Leveled(30)
		wantMean(t, g, mixed)
		wantMean(t, g, r.Text(api.MaxInput))
	}
}

// TestGreatest: what is as great as it can be, in a time and in turns that the
// sizes explain.
func TestGreatest(t *testing.T) {
	g := samples.Greatest()
	for _, w := range []string{strings.Repeat("abba", api.MaxInput/4), "abaab" + strings.Repeat("c", api.MaxInput-5)} {
		wantEach(t, g, w, like(`[ab]*`))
	}
	wantMean(t, g, mixed)
}

// great is grammars of as many names, conjuncts or symbols as there can be, in
// which much is to be passed on.
func great() []api.Grammar {
	var out []api.Grammar
	for _, step := range []int{1, 7, api.MaxNames - 1} {
		out = append(out, ringOfAll(step), pairsOfAll(step), levelsOfAll(step))
	}
	full := row(slices.Repeat([]api.Symbol{ref(0)}, api.MaxSeq)...)
	return append(out,
		samples.Greatest(),
		named(1, rule(0, full, row(span('a', 'b'))), rule(0, full), rule(0, row()), rule(0, row(span('b', 'z')))),
		named(1, rule(0, slices.Repeat([]api.Conjunct{full}, api.MaxConj)...), rule(0, row()), rule(0, row(span('a', 'c')))),
	)
}

// ringOfAll leads from name to name, in each of many conjuncts, so that each
// point that one has is passed on through all others.
func ringOfAll(step int) api.Grammar {
	g := named(api.MaxNames)
	for head := range api.MaxNames {
		next := ref((head + step) % api.MaxNames)
		for range 3 {
			g.Rules = append(g.Rules, rule(head, slices.Repeat([]api.Conjunct{row(next)}, 5)...))
		}
		if head == api.MaxNames/2 {
			g.Rules = append(g.Rules, rule(head, row(ref(head), span('a', 'c'))), rule(head, row(span('a', 'b'))), rule(head, row()))
		}
	}
	return g
}

// pairsOfAll has two names of a ring in each conjunct, and many empty texts.
func pairsOfAll(step int) api.Grammar {
	g := named(api.MaxNames)
	for head := range api.MaxNames {
		next, over := ref((head+step)%api.MaxNames), ref((head+2*step)%api.MaxNames)
		g.Rules = append(g.Rules, rule(head, row(next, over), row(over, next)), rule(head, row(next, next, next)), rule(head, row(over)))
		if head == 0 {
			g.Rules = append(g.Rules, rule(head, row(span('b', 'b'))), rule(head, row()))
		}
	}
	return g
}

// levelsOfAll is of names each of which is not what the one behind it is, with
// some bytes more, or fewer.
func levelsOfAll(step int) api.Grammar {
	g := named(api.MaxNames)
	for head := range api.MaxNames {
		below := ref(max(0, head-step))
		if head == 0 {
			below = span('a', 'a')
		}
		g.Rules = append(g.Rules,
			rule(head, rowNot(below), rowNot(span('b', 'b'), below)),
			rule(head, row(span('a', 'b'), ref(head)), rowNot(below, span('c', 'c'))),
			rule(head, row(below, span('c', 'c')), row(span('a', 'c'), ref(head))))
	}
	return g
}

// TestGreatGrammarsMean: great grammars say what layer 11 says.
func TestGreatGrammarsMean(t *testing.T) {
	for _, g := range great() {
		for _, w := range []string{mixed, strings.Repeat("a", api.MaxInput), strings.Repeat("ab", api.MaxInput/2)} {
			means, e := mean.New(g, w)
			if e != api.OK {
				t.Fatalf("New(%s): %d", brief(g), e)
			}
			for _, start := range []int{0, len(g.Names) / 2, len(g.Names) - 1} {
				g.Start = start
				wantEach(t, g, w, func(s string) bool { return means.Has(start, 0, len(s)) })
			}
		}
	}
}

// TestStepsOfGreatGrammars: P15.2: the bound, with nothing fed and behind each
// byte, where much is to be passed on.
func TestStepsOfGreatGrammars(t *testing.T) {
	for _, g := range great() {
		for _, c := range []string{"a", "b", "c"} {
			x := made(t, g)
			wantSteps(t, x, g)
			for range api.MaxInput {
				feed(t, x, c)
				wantSteps(t, x, g)
			}
		}
	}
}
