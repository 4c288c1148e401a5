package engines_test

import (
	"strings"
	"testing"

	"temple/api"
	"temple/mean"
	"temple/samples"
	"temple/strata"
)

// TestAllSmallGrammars: two names with rules of the conjuncts that they and a
// byte can make, held against layer 11.
func TestAllSmallGrammars(t *testing.T) {
	var all []api.Conjunct
	for _, seq := range [][]api.Symbol{
		{}, {ref(0)}, {ref(1)}, {span('a', 'a')}, {ref(0), ref(1)}, {span('a', 'b'), ref(1)}, {ref(1), span('b', 'b'), ref(0)},
	} {
		all = append(all, row(seq...), rowNot(seq...))
	}
	told, cycles := 0, 0
	samples.EachChoice(3, len(all), func(chosen []int) {
		a, b, c := all[chosen[0]], all[chosen[1]], all[chosen[2]]
		for _, g := range []api.Grammar{
			named(2, rule(0, a), rule(0, b), rule(1, c)),
			named(2, rule(0, a, b), rule(1, c)),
		} {
			if _, _, e := strata.Strata(g); e != api.OK {
				wantNone(t, "a cycle", g)
				cycles++
				continue
			}
			wantMean(t, g, "abba")
			wantMean(t, g, "bab")
			told++
		}
	})
	if told < 1000 || cycles < 500 {
		t.Errorf("%d told, %d cycles", told, cycles)
	}
}

// TestMixedGrammars: grammars with levels, rings and empty texts, held against
// layer 11.
func TestMixedGrammars(t *testing.T) {
	r := samples.Numbers(151)
	either := 0
	for range 3000 {
		g, w := r.Leveled(5), r.Text(8)
		wantMean(t, g, w)
		if means, _ := mean.New(g, w); means.Has(g.Start, 0, len(w)) != means.Has(g.Start, 0, 0) {
			either++
		}
	}
	if either < 500 {
		t.Errorf("%d with either", either)
	}
	for range 20 {
		g := r.Leveled(30)
		wantMean(t, g, mixed)
		wantMean(t, g, r.Text(api.MaxInput))
	}
}

// TestGreatest: what is as great as it can be, in a time that the sizes explain.
func TestGreatest(t *testing.T) {
	g := samples.Greatest()
	for _, w := range []string{strings.Repeat("abba", api.MaxInput/4), "abaab" + strings.Repeat("c", api.MaxInput-5)} {
		wantEach(t, g, w, like(`[ab]*`))
	}
	wantMean(t, g, mixed)
}

// TestGreatGrammarsMean: great grammars say what layer 11 says.
func TestGreatGrammarsMean(t *testing.T) {
	for _, g := range samples.Heavy() {
		for _, w := range []string{mixed, strings.Repeat("a", api.MaxInput), strings.Repeat("ab", api.MaxInput/2)} {
			means, e := mean.New(g, w)
			if e != api.OK {
				t.Fatalf("New(%s): %d", brief(g), e)
			}
			for _, start := range []int{0, len(g.Names) / 2, len(g.Names) - 1} {
				g.Start = start
				wantEach(t, g, w, func(s string) bool { return means.Has(start, 0, len(s)) })
			}
		}
	}
}
