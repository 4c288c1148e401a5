package seqs_test

import (
	"fmt"
	"slices"
	"sync"
	"testing"

	"temple/api"
	"temple/gram"
	"temple/samples"
	"temple/seqs"
	"temple/strata"
)

var (
	ref, span   = samples.Ref, samples.Span
	row, rowNot = samples.Row, samples.RowNot
	rule, named = samples.Rule, samples.Named
)

// at is a place.
func at(rule, conj, pos int) api.Place {
	return api.Place{Rule: rule, Conj: conj, Pos: pos}
}

// plainPlaces is the places of samples.Plain.
func plainPlaces() []api.Place {
	return []api.Place{
		at(0, 0, 0), at(0, 0, 1), at(0, 0, 2), at(0, 0, 3), at(0, 1, 0), at(0, 1, 1),
		at(1, 0, 0),
		at(2, 0, 0), at(2, 0, 1), at(2, 0, 2),
	}
}

// brief tells the beginning of something that may be long.
func brief(x any) string {
	return fmt.Sprintf("%.300s", fmt.Sprint(x))
}

// want: P10.1: the places of a grammar, and how many they are.
func want(t *testing.T, g api.Grammar, places ...api.Place) {
	t.Helper()
	if got, e := seqs.Places(g); !slices.Equal(got, places) || e != api.OK {
		t.Errorf("P10.1: Places(%s) = %s, %d, not %s", brief(g), brief(got), e, brief(places))
	}
	if got := seqs.Count(g); got != len(places) {
		t.Errorf("P10.1: Count(%s) = %d, not %d", brief(g), got, len(places))
	}
}

// wantNone: P10.1: a grammar that may not be has no places.
func wantNone(t *testing.T, what string, g api.Grammar) {
	t.Helper()
	if got, e := seqs.Places(g); got != nil || e != api.ErrSeqsForm {
		t.Errorf("P10.1: %s: Places(%s) = %s, %d", what, brief(g), brief(got), e)
	}
	if got := seqs.Count(g); got != 0 {
		t.Errorf("P10.1: %s: Count(%s) = %d", what, brief(g), got)
	}
}

func TestWhatMayNotBe(t *testing.T) {
	for _, s := range samples.MayNotBe() {
		wantNone(t, s.What, s.Grammar)
	}
	want(t, samples.Plain(), plainPlaces()...)
}

// TestNoSymbols: a conjunct of no symbols has one place, its end.
func TestNoSymbols(t *testing.T) {
	want(t, named(1, rule(0, row())), at(0, 0, 0))
	want(t, named(1, rule(0, rowNot())), at(0, 0, 0))
	want(t, named(1, rule(0, api.Conjunct{Seq: []api.Symbol{}})), at(0, 0, 0))
	want(t, samples.Read(`start S; S = "";`), at(0, 0, 0))
	want(t, samples.Read(`start S; S = "" "" "";`), at(0, 0, 0))
}

// TestOneSymbol: there is a place ahead of it and one behind it, whatever it is.
func TestOneSymbol(t *testing.T) {
	for _, s := range []api.Symbol{ref(0), span('a', 'a'), span(0, 0), span(255, 255), span(0, 255)} {
		want(t, named(1, rule(0, row(s))), at(0, 0, 0), at(0, 0, 1))
		want(t, named(1, rule(0, row(s)), rule(0, row())), at(0, 0, 0), at(0, 0, 1), at(1, 0, 0))
	}
	// A range is one symbol, however many bytes it has, a text one for each byte.
	want(t, samples.Read(`start S; S = 'a'..'z';`), at(0, 0, 0), at(0, 0, 1))
	want(t, samples.Read(`start S; S = "ab";`), at(0, 0, 0), at(0, 0, 1), at(0, 0, 2))
}

// countUp is the places of a conjunct of so many symbols.
func countUp(rule, conj, symbols int) []api.Place {
	var out []api.Place
	for pos := 0; pos <= symbols; pos++ {
		out = append(out, at(rule, conj, pos))
	}
	return out
}

func TestSeveralSymbols(t *testing.T) {
	for n := range api.MaxSeq + 1 {
		names := slices.Repeat([]api.Symbol{ref(0)}, n)
		ranges := slices.Repeat([]api.Symbol{span('a', 'b')}, n)
		want(t, named(1, rule(0, row(names...))), countUp(0, 0, n)...)
		want(t, named(1, rule(0, rowNot(ranges...))), countUp(0, 0, n)...)
	}
	want(t, named(1, rule(0, row(ref(0), span(1, 2), ref(0)))), countUp(0, 0, 3)...)
	want(t, named(1, rule(0, row(span(1, 2), ref(0), span(1, 2)))), countUp(0, 0, 3)...)
}

func TestSeveralConjuncts(t *testing.T) {
	a, b := ref(0), span('b', 'b')
	places := []api.Place{at(0, 0, 0), at(0, 0, 1), at(0, 1, 0), at(0, 2, 0), at(0, 2, 1), at(0, 2, 2)}
	want(t, named(1, rule(0, row(b), row(), row(a, b))), places...)
	// A negated conjunct has its places like another one, wherever it stands.
	want(t, named(1, rule(0, rowNot(b), row(), row(b, b))), places...)
	want(t, named(1, rule(0, row(b), rowNot(), row(a, b))), places...)
	want(t, named(1, rule(0, row(b), row(), rowNot(b, b))), places...)
	want(t, named(1, rule(0, rowNot(b), rowNot(), rowNot(b, b))), places...)
	// Two that are the same have places of their own.
	want(t, named(1, rule(0, row(a), row(a))), at(0, 0, 0), at(0, 0, 1), at(0, 1, 0), at(0, 1, 1))
	want(t, named(1, rule(0, row(b), rowNot(b))), at(0, 0, 0), at(0, 0, 1), at(0, 1, 0), at(0, 1, 1))
}

func TestSeveralRules(t *testing.T) {
	b := span('b', 'b')
	places := []api.Place{at(0, 0, 0), at(1, 0, 0), at(1, 0, 1), at(1, 1, 0), at(2, 0, 0), at(2, 0, 1), at(2, 0, 2)}
	want(t, named(1, rule(0, row()), rule(0, row(b), rowNot()), rule(0, row(ref(0), b))), places...)
	// A rule's number goes through all of them, whose they are.
	want(t, named(2, rule(0, row()), rule(0, row(b), rowNot()), rule(1, row(ref(0), b))), places...)
	want(t, named(2, rule(0, row()), rule(1, row(b), rowNot()), rule(1, row(ref(1), b))), places...)
	want(t, named(3, rule(0, row()), rule(1, row(b), rowNot()), rule(2, row(ref(1), b))), places...)
	// Two that are the same have places of their own.
	want(t, named(1, rule(0, row(b)), rule(0, row(b))), at(0, 0, 0), at(0, 0, 1), at(1, 0, 0), at(1, 0, 1))
}

func TestTexts(t *testing.T) {
	want(t, samples.Read(`start S; S = "a" S | ~ 'a'..'z' & T "b"; T = "";`),
		at(0, 0, 0), at(0, 0, 1), at(0, 0, 2),
		at(1, 0, 0), at(1, 0, 1), at(1, 1, 0), at(1, 1, 1), at(1, 1, 2),
		at(2, 0, 0))
}

// TestNamesSayNothing: neither the start nor what names are turns the places.
func TestNamesSayNothing(t *testing.T) {
	for start := range 2 {
		g := samples.Plain()
		g.Names, g.Start = []string{"z", "a"}, start
		want(t, g, plainPlaces()...)
	}
}

// TestCycles: a grammar in which layer 8 finds a cycle may be, and has places.
func TestCycles(t *testing.T) {
	long := named(api.MaxNames)
	var longPlaces []api.Place
	for i := range api.MaxNames {
		long.Rules = append(long.Rules, rule(i, rowNot(ref((i+1)%api.MaxNames))))
		longPlaces = append(longPlaces, at(i, 0, 0), at(i, 0, 1))
	}
	for _, c := range []struct {
		g      api.Grammar
		places []api.Place
	}{
		{named(1, rule(0, rowNot(ref(0)))), []api.Place{at(0, 0, 0), at(0, 0, 1)}},
		{named(2, rule(0, row(ref(1))), rule(1, row(), rowNot(ref(0)))),
			[]api.Place{at(0, 0, 0), at(0, 0, 1), at(1, 0, 0), at(1, 1, 0), at(1, 1, 1)}},
		{samples.Read(`start S; S = "" | ~ "b" S;`),
			[]api.Place{at(0, 0, 0), at(1, 0, 0), at(1, 0, 1), at(1, 0, 2)}},
		{long, longPlaces},
	} {
		if _, _, e := strata.Strata(c.g); e != api.ErrStrataCycle {
			t.Fatalf("%s has no cycle: %d", brief(c.g), e)
		}
		want(t, c.g, c.places...)
	}
}

// plainly is the chapter's sentence once more: of all places that there could
// be, in their row, those that a conjunct has.
func plainly(g api.Grammar) []api.Place {
	var out []api.Place
	for i := range api.MaxRules {
		for c := range api.MaxConj {
			for pos := 0; pos <= api.MaxSeq; pos++ {
				if i < len(g.Rules) && c < len(g.Rules[i].Conj) && pos <= len(g.Rules[i].Conj[c].Seq) {
					out = append(out, at(i, c, pos))
				}
			}
		}
	}
	return out
}

// TestAllSmallGrammars holds all grammars of a few small conjuncts against
// the chapter's sentence.
func TestAllSmallGrammars(t *testing.T) {
	a, b := ref(0), span('b', 'b')
	conjuncts := []api.Conjunct{
		row(), row(a), row(b, a), row(a, a, b),
		rowNot(), rowNot(b), rowNot(b, b), rowNot(a, b, a),
	}
	samples.EachChoice(3, len(conjuncts), func(chosen []int) {
		x, y, z := conjuncts[chosen[0]], conjuncts[chosen[1]], conjuncts[chosen[2]]
		for _, g := range []api.Grammar{
			named(1, rule(0, x, y, z)),
			named(1, rule(0, x), rule(0, y, z)),
			named(1, rule(0, x, y), rule(0, z)),
			named(2, rule(0, x), rule(1, y), rule(1, z)),
		} {
			want(t, g, plainly(g)...)
		}
	})
}

func TestMixedGrammars(t *testing.T) {
	r := samples.Numbers(10)
	for range 1000 {
		g := r.Grammar(5)
		want(t, g, plainly(g)...)
	}
	for range 100 {
		g := r.Grammar(api.MaxNames)
		want(t, g, plainly(g)...)
	}
}

// TestRowRises: each place stands behind the one ahead of it: none is told
// twice.
func TestRowRises(t *testing.T) {
	r := samples.Numbers(100)
	for range 300 {
		places, _ := seqs.Places(r.Grammar(api.MaxNames))
		for i := 1; i < len(places); i++ {
			if a, b := places[i-1], places[i]; !isAhead(a, b) {
				t.Fatalf("P10.1: %v, then %v", a, b)
			}
		}
	}
}

// isAhead: does one place stand ahead of another one, by Rule, Conj, Pos?
func isAhead(a, b api.Place) bool {
	if a.Rule != b.Rule {
		return a.Rule < b.Rule
	}
	if a.Conj != b.Conj {
		return a.Conj < b.Conj
	}
	return a.Pos < b.Pos
}

// TestMostPlaces: a grammar of the most rules, conjuncts and symbols has
// all of their places.
func TestMostPlaces(t *testing.T) {
	g := named(api.MaxNames)
	for i := range api.MaxRules {
		r := rule(i*api.MaxNames/api.MaxRules, slices.Repeat([]api.Conjunct{rowNot()}, api.MaxConj)...)
		for c := range api.MaxSymbols / api.MaxRules {
			r.Conj[c*2] = row(span(0, 255))
		}
		g.Rules = append(g.Rules, r)
	}
	want(t, g, plainly(g)...)
	if got, most := seqs.Count(g), api.MaxSymbols+api.MaxRules*api.MaxConj; got != most {
		t.Errorf("P10.1: Count = %d, not %d", got, most)
	}
	g.Rules[9].Conj[1] = row(ref(0))
	wantNone(t, "one symbol too many", g)
	g.Rules[9].Conj[1] = row()
	g.Rules = append(g.Rules, rule(api.MaxNames-1, row()))
	wantNone(t, "one rule too many", g)

	full := row(slices.Repeat([]api.Symbol{ref(0)}, api.MaxSeq)...)
	half := rule(0, slices.Repeat([]api.Conjunct{full}, api.MaxConj)...)
	g = named(1, half, half)
	want(t, g, plainly(g)...)
	g = named(1, half, half, rule(0, row(ref(0))))
	wantNone(t, "one symbol too many in few rules", g)
}

// TestGrammarStaysAsItWas: R4: what is handed in is not changed, its spare
// room neither, and the places do not hang on it any more.
func TestGrammarStaysAsItWas(t *testing.T) {
	spoiled := samples.Plain()
	spoiled.Start = 2
	for _, g := range []api.Grammar{samples.Plain(), spoiled} {
		given := samples.Roomy(g)
		seqs.Count(given)
		places, e := seqs.Places(given)
		if !samples.Same(given, samples.Roomy(g)) {
			t.Errorf("R4: %v became %v", g, given)
		}
		given.Rules[0].Conj[0].Seq = nil
		given.Rules[1].Conj = nil
		if e == api.OK && !slices.Equal(places, plainPlaces()) {
			t.Errorf("R4: %v, not %v", places, plainPlaces())
		}
	}
	want(t, samples.Roomy(samples.Plain()), plainPlaces()...)
}

// TestAnswersAreApart: R4: whoever changes an answer, its spare room too,
// changes no other one.
func TestAnswersAreApart(t *testing.T) {
	one, _ := seqs.Places(samples.Plain())
	other, _ := seqs.Places(samples.Plain())
	for i := range one[:cap(one)] {
		one[:cap(one)][i] = at(9, 9, 9)
	}
	if !slices.Equal(other, plainPlaces()) {
		t.Errorf("R4: %v, not %v", other, plainPlaces())
	}
	want(t, samples.Plain(), plainPlaces()...)
}

// TestNothingIsKept: R5: places hang on the grammar alone; many times the
// same call answers the same.
func TestNothingIsKept(t *testing.T) {
	r := samples.Numbers(1010)
	for range 200 {
		g := r.Grammar(api.MaxNames)
		seqs.Places(g)
		seqs.Count(g)
		wantNone(t, "nothing", api.Grammar{})
		want(t, samples.Plain(), plainPlaces()...)
	}
	g := r.Grammar(api.MaxNames)
	places, _ := seqs.Places(g)
	for range 100 {
		want(t, g, places...)
	}
}

func TestSeveralGoroutines(t *testing.T) {
	g, bad := samples.Plain(), named(1, rule(0, row(ref(1))))
	var group sync.WaitGroup
	for range 8 {
		group.Go(func() {
			for range 100 {
				want(t, g, plainPlaces()...)
				wantNone(t, "a name above", bad)
			}
		})
	}
	group.Wait()
}

// TestGreatGrammars: R1: what is far too much is refused in a time that its
// size explains.
func TestGreatGrammars(t *testing.T) {
	for _, s := range samples.Great() {
		wantNone(t, s.What, s.Grammar)
	}
}

// TestAnyNumbers: R1: no numbers make a panic; what may be has its places,
// all else is refused.
func TestAnyNumbers(t *testing.T) {
	for _, g := range samples.AnyNumbers() {
		if gram.May(g) {
			want(t, g, plainly(g)...)
		} else {
			wantNone(t, "may not be", g)
		}
	}
}
