package deps_test

import (
	"fmt"
	"slices"
	"sync"
	"testing"

	"temple/api"
	"temple/deps"
	"temple/gram"
	"temple/samples"
)

var (
	ref, span   = samples.Ref, samples.Span
	row, rowNot = samples.Row, samples.RowNot
	rule, named = samples.Rule, samples.Named
)

// having is a grammar of three names whose first one has some conjuncts.
func having(conjuncts ...api.Conjunct) api.Grammar {
	return named(3, rule(0, conjuncts...), rule(1, row()), rule(2, row()))
}

// plain is a grammar that may be; each test changes one part.
func plain() api.Grammar {
	return api.Grammar{
		Start: 1,
		Names: []string{"S", "T"},
		Rules: []api.Rule{
			rule(0, row(ref(1), span('a', 'z'), ref(0)), rowNot(ref(0))),
			rule(0, row()),
			rule(1, rowNot(span(0, 255), ref(0))),
		},
	}
}

func plainEdges() []api.Edge {
	return []api.Edge{is(0, 0), isNot(0, 0), is(0, 1), isNot(1, 0)}
}

func is(from, to int) api.Edge {
	return api.Edge{From: from, To: to}
}

func isNot(from, to int) api.Edge {
	return api.Edge{From: from, To: to, Neg: true}
}

// repeat is a list of n times the same.
func repeat[T any](x T, n int) []T {
	var out []T
	for range n {
		out = append(out, x)
	}
	return out
}

// brief tells the beginning of something that may be long.
func brief(x any) string {
	return fmt.Sprintf("%.300s", fmt.Sprint(x))
}

// want holds the edges of g against what they must be.
func want(t *testing.T, g api.Grammar, edges ...api.Edge) {
	t.Helper()
	if got, e := deps.Edges(g); !slices.Equal(got, edges) || e != api.OK {
		t.Errorf("P6.1: Edges(%s) = %s, %d, not %s", brief(g), brief(got), e, brief(edges))
	}
}

// wantNone: P6.1: a grammar that may not be has no edges.
func wantNone(t *testing.T, what string, g api.Grammar) {
	t.Helper()
	if got, e := deps.Edges(g); got != nil || e != api.ErrDepsForm {
		t.Errorf("P6.1: %s: Edges(%s) = %s, %d", what, brief(g), brief(got), e)
	}
}

func TestPlainEdges(t *testing.T) {
	want(t, plain(), plainEdges()...)
	want(t, having(row(ref(1))), is(0, 1))
	want(t, having(rowNot(ref(1))), isNot(0, 1))
	want(t, named(2, rule(0, row()), rule(1, row(ref(0)))), is(1, 0))
	want(t, named(2, rule(0, row()), rule(1, rowNot(ref(0)))), isNot(1, 0))
}

func TestNoNames(t *testing.T) {
	want(t, having(row()))
	want(t, having(rowNot()))
	want(t, having(row(), rowNot(), row()))
	want(t, having(row(span('a', 'a'))))
	want(t, having(rowNot(span(0, 255), span(1, 1))))
	want(t, having(row(span(0, 0)), rowNot(span(0, 0), span(0, 2))))
	want(t, named(1, rule(0, row())))
	want(t, named(api.MaxNames, eachHead(func(int) api.Conjunct { return row(span('a', 'b')) })...))
	got, e := deps.Edges(having(row()))
	if got != nil || e != api.OK {
		t.Errorf("P6.1: %v, %d: a list of none is nil", got, e)
	}
}

// eachHead is a rule of one conjunct for each of the most names.
func eachHead(conjunct func(head int) api.Conjunct) []api.Rule {
	var out []api.Rule
	for i := range api.MaxNames {
		out = append(out, rule(i, conjunct(i)))
	}
	return out
}

func TestBytesBetweenNames(t *testing.T) {
	a, az := span('a', 'a'), span('a', 'z')
	want(t, having(row(a, ref(1), az)), is(0, 1))
	want(t, having(row(ref(1), a, a, ref(2))), is(0, 1), is(0, 2))
	want(t, having(row(az, ref(2)), rowNot(ref(1), az)), isNot(0, 1), is(0, 2))
	// The ends of a range are no numbers of names.
	want(t, having(row(span(1, 2), span(2, 2), span(0, 1))))
	want(t, having(row(span(1, 2), ref(0), span(2, 2))), is(0, 0))
}

func TestItself(t *testing.T) {
	want(t, having(row(ref(0))), is(0, 0))
	want(t, having(rowNot(ref(0))), isNot(0, 0))
	want(t, having(row(ref(0), ref(0)), rowNot(ref(0), ref(0))), is(0, 0), isNot(0, 0))
	want(t, named(1, rule(0, row(span('a', 'a'), ref(0))), rule(0, row())), is(0, 0))
	want(t, named(2, rule(0, row()), rule(1, row(ref(1)))), is(1, 1))
}

// TestEachOnce: an edge is told once, wherever its name stands again.
func TestEachOnce(t *testing.T) {
	want(t, having(row(ref(1), ref(1))), is(0, 1))
	want(t, having(row(ref(1), ref(2), ref(1), span(0, 1), ref(1))), is(0, 1), is(0, 2))
	want(t, having(row(ref(1)), row(ref(1))), is(0, 1))
	want(t, having(rowNot(ref(1)), rowNot(ref(2), ref(1))), isNot(0, 1), isNot(0, 2))
	want(t, having(row(ref(1)), rowNot(ref(2)), row(ref(1)), rowNot(ref(2))), is(0, 1), isNot(0, 2))
	want(t, named(2, rule(0, row(ref(1))), rule(0, row(ref(1))), rule(1, row())), is(0, 1))
	want(t, named(2, rule(0, row(ref(1))), rule(0, row()), rule(0, row(span(1, 1), ref(1))), rule(1, row())), is(0, 1))
	want(t, having(repeat(row(repeat(ref(2), api.MaxSeq)...), api.MaxConj)...), is(0, 2))
	want(t, having(repeat(rowNot(repeat(ref(2), api.MaxSeq)...), api.MaxConj)...), isNot(0, 2))
}

// TestBothWays: the same two names with and without "not" are two edges, the
// one without ahead, however they stand.
func TestBothWays(t *testing.T) {
	want(t, having(row(ref(1)), rowNot(ref(1))), is(0, 1), isNot(0, 1))
	want(t, having(rowNot(ref(1)), row(ref(1))), is(0, 1), isNot(0, 1))
	want(t, having(rowNot(ref(1)), row(ref(1)), rowNot(ref(1)), row(ref(1))), is(0, 1), isNot(0, 1))
	want(t, named(2, rule(0, rowNot(ref(1))), rule(0, row(ref(1))), rule(1, row())), is(0, 1), isNot(0, 1))
	want(t, named(2, rule(0, row(ref(1))), rule(0, rowNot(ref(1))), rule(1, row())), is(0, 1), isNot(0, 1))
}

// TestTwoHeads: what one name needs says nothing of another one.
func TestTwoHeads(t *testing.T) {
	want(t, named(2, rule(0, row(ref(1))), rule(1, row(ref(0)))), is(0, 1), is(1, 0))
	want(t, named(2, rule(0, row(ref(1))), rule(1, row(ref(1)))), is(0, 1), is(1, 1))
	want(t, named(2, rule(0, rowNot(ref(0))), rule(1, row(ref(0)))), isNot(0, 0), is(1, 0))
	want(t, named(2, rule(0, row(ref(0))), rule(1, rowNot(ref(0)))), is(0, 0), isNot(1, 0))
}

func TestRow(t *testing.T) {
	want(t, having(row(ref(2), ref(1), ref(0))), is(0, 0), is(0, 1), is(0, 2))
	want(t, having(row(ref(1), ref(2), ref(0))), is(0, 0), is(0, 1), is(0, 2))
	want(t, having(rowNot(ref(0)), row(ref(2))), isNot(0, 0), is(0, 2))
	want(t, having(row(ref(2)), rowNot(ref(0))), isNot(0, 0), is(0, 2))
	want(t, having(row(ref(2)), rowNot(ref(2)), rowNot(ref(1)), row(ref(1)), row(ref(0)), rowNot(ref(0))),
		is(0, 0), isNot(0, 0), is(0, 1), isNot(0, 1), is(0, 2), isNot(0, 2))
	want(t, named(3, rule(0, row(ref(2))), rule(1, rowNot(ref(1)), row(ref(0))), rule(2, row(ref(1)), rowNot(ref(0)))),
		is(0, 2), is(1, 0), isNot(1, 1), isNot(2, 0), is(2, 1))
}

// TestNumbersNotNames: edges stand by the numbers of names, not by what the
// names are, and the start says nothing.
func TestNumbersNotNames(t *testing.T) {
	for start := range 3 {
		g := having(row(ref(2), ref(1), ref(0)))
		g.Names, g.Start = []string{"z", "b", "a"}, start
		want(t, g, is(0, 0), is(0, 1), is(0, 2))
	}
}

// TestAllRows: the same conjuncts and rules in any row have the same edges.
func TestAllRows(t *testing.T) {
	parts := []api.Conjunct{row(ref(2), ref(0)), rowNot(ref(1), ref(0)), row(ref(1)), rowNot(ref(2))}
	edges := []api.Edge{is(0, 0), isNot(0, 0), is(0, 1), isNot(0, 1), is(0, 2), isNot(0, 2)}
	samples.EachOrder(len(parts), func(order []int) {
		var inOne []api.Conjunct
		var rules []api.Rule
		for _, i := range order {
			inOne = append(inOne, parts[i])
			rules = append(rules, rule(0, parts[i]))
		}
		want(t, having(inOne...), edges...)
		want(t, named(3, append(rules, rule(1, row()), rule(2, row()))...), edges...)
	})
}

// plainly is the chapter's sentence once more: all edges that there could be,
// in their row, of which those are told that a conjunct has.
func plainly(g api.Grammar) []api.Edge {
	var out []api.Edge
	for from := range g.Names {
		for to := range g.Names {
			for _, neg := range []bool{false, true} {
				if has(g, from, to, neg) {
					out = append(out, api.Edge{From: from, To: to, Neg: neg})
				}
			}
		}
	}
	return out
}

func has(g api.Grammar, from, to int, neg bool) bool {
	for _, r := range g.Rules {
		for _, c := range r.Conj {
			if r.Head == from && c.Neg == neg && slices.Contains(c.Seq, ref(to)) {
				return true
			}
		}
	}
	return false
}

// TestAllSmallGrammars holds all grammars of one rule and of two against the
// chapter's sentence.
func TestAllSmallGrammars(t *testing.T) {
	symbols := []api.Symbol{ref(0), ref(1), span('a', 'b')}
	rows := [][]api.Symbol{nil}
	for _, a := range symbols {
		rows = append(rows, []api.Symbol{a})
		for _, b := range symbols {
			rows = append(rows, []api.Symbol{a, b})
		}
	}
	var conjuncts []api.Conjunct
	for _, seq := range rows {
		conjuncts = append(conjuncts, row(seq...), rowNot(seq...))
	}
	for _, a := range conjuncts {
		for _, b := range conjuncts {
			for _, c := range conjuncts {
				for _, g := range []api.Grammar{
					named(2, rule(0, a, b), rule(1, c)),
					named(2, rule(0, a), rule(1, b, c)),
					named(2, rule(0, a), rule(0, b), rule(1, c)),
				} {
					want(t, g, plainly(g)...)
				}
			}
		}
	}
}

func TestMixedGrammars(t *testing.T) {
	r := samples.Numbers(6)
	for range 3000 {
		g := r.Grammar(5)
		want(t, g, plainly(g)...)
	}
	for range 100 {
		g := r.Grammar(api.MaxNames)
		want(t, g, plainly(g)...)
	}
}

// TestWhatMayNotBe: each grammar that breaks a condition of chapter 4 has
// ErrDepsForm for it.
func TestWhatMayNotBe(t *testing.T) {
	for _, c := range samples.MayNotBe() {
		wantNone(t, c.What, c.Grammar)
	}
	want(t, samples.Plain(), is(0, 0), is(0, 1), isNot(0, 1))
}

// TestWhatMayJustBe: grammars at the limits have their edges, as many as can
// be among them.
func TestWhatMayJustBe(t *testing.T) {
	// Each name needs 16 other ones: 1,024 symbols and as many edges.
	const each = api.MaxSymbols / api.MaxNames
	g := named(api.MaxNames, eachHead(func(head int) api.Conjunct {
		c := api.Conjunct{Neg: head%2 == 1}
		for i := range each {
			c.Seq = append(c.Seq, ref((head+(each-i)*3)%api.MaxNames))
		}
		return c
	})...)
	want(t, g, plainly(g)...)
	if got, _ := deps.Edges(g); len(got) != api.MaxSymbols {
		t.Errorf("P6.1: %d edges", len(got))
	}
	g.Rules[9].Conj[0].Seq = append(g.Rules[9].Conj[0].Seq, ref(0))
	wantNone(t, "one symbol too many", g)

	g = named(api.MaxNames)
	for i := range api.MaxRules {
		head := i * api.MaxNames / api.MaxRules
		r := rule(head, repeat(rowNot(), api.MaxConj)...)
		for j := range 4 {
			r.Conj[j] = api.Conjunct{Neg: i%2 == 0, Seq: []api.Symbol{ref((i*j + head) % api.MaxNames)}}
		}
		g.Rules = append(g.Rules, r)
	}
	want(t, g, plainly(g)...)
	g.Rules = append(g.Rules, rule(api.MaxNames-1, row()))
	wantNone(t, "one rule too many", g)
}

// TestGrammarStaysAsItWas: R4: what is handed in is not changed, its spare
// room neither, and the edges do not hang on it any more.
func TestGrammarStaysAsItWas(t *testing.T) {
	spoiled := plain()
	spoiled.Start = 2
	for _, g := range []api.Grammar{plain(), spoiled} {
		given := samples.Roomy(g)
		edges, e := deps.Edges(given)
		if !samples.Same(given, samples.Roomy(g)) {
			t.Errorf("R4: Edges changed %v into %v", g, given)
		}
		given.Rules[0].Conj[0].Seq[0] = ref(0)
		given.Rules[0].Conj[1].Neg = false
		if e == api.OK && !slices.Equal(edges, plainEdges()) {
			t.Errorf("R4: %v, not %v", edges, plainEdges())
		}
	}
	want(t, samples.Roomy(plain()), plainEdges()...)
}

// TestAnswersAreApart: R4: whoever changes an answer, its spare room too,
// changes no other one.
func TestAnswersAreApart(t *testing.T) {
	one, _ := deps.Edges(plain())
	other, _ := deps.Edges(plain())
	for i := range one[:cap(one)] {
		one[:cap(one)][i] = isNot(9, 9)
	}
	if !slices.Equal(other, plainEdges()) {
		t.Errorf("R4: %v, not %v", other, plainEdges())
	}
	want(t, plain(), plainEdges()...)
}

// TestNothingIsKept: R5: edges hang on the grammar alone; many times the same
// call answers the same.
func TestNothingIsKept(t *testing.T) {
	r := samples.Numbers(66)
	for range 200 {
		deps.Edges(r.Grammar(api.MaxNames))
		deps.Edges(api.Grammar{})
		want(t, plain(), plainEdges()...)
	}
	g := r.Grammar(api.MaxNames)
	edges, _ := deps.Edges(g)
	for range 100 {
		want(t, g, edges...)
	}
}

func TestSeveralGoroutines(t *testing.T) {
	g, bad := plain(), having(row(ref(9)))
	var group sync.WaitGroup
	for range 8 {
		group.Go(func() {
			for range 100 {
				want(t, g, plainEdges()...)
				wantNone(t, "a name above", bad)
			}
		})
	}
	group.Wait()
}

// TestGreatGrammars: R1: what is far too much is refused in a time that its
// size explains.
func TestGreatGrammars(t *testing.T) {
	for _, c := range samples.Great() {
		wantNone(t, c.What, c.Grammar)
	}
}

// TestAnyNumbers: R1: no numbers make a panic; what may be has its edges, all
// else is refused.
func TestAnyNumbers(t *testing.T) {
	for _, g := range samples.AnyNumbers() {
		wantTold(t, g)
	}
}

// wantTold: a grammar has edges just if it may be.
func wantTold(t *testing.T, g api.Grammar) {
	t.Helper()
	if !gram.May(g) {
		wantNone(t, "may not be", g)
		return
	}
	want(t, g, plainly(g)...)
}
