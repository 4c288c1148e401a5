package strata_test

import (
	"fmt"
	"slices"
	"sync"
	"testing"

	"temple/api"
	"temple/deps"
	"temple/gram"
	"temple/samples"
	"temple/strata"
)

var (
	ref, span   = samples.Ref, samples.Span
	row, rowNot = samples.Row, samples.RowNot
	rule, named = samples.Rule, samples.Named
)

func is(from, to int) api.Edge {
	return api.Edge{From: from, To: to}
}

func isNot(from, to int) api.Edge {
	return api.Edge{From: from, To: to, Neg: true}
}

// along is edges that lead from each name to the next one told.
func along(names ...int) []api.Edge {
	var out []api.Edge
	for i := range len(names) - 1 {
		out = append(out, is(names[i], names[i+1]))
	}
	return out
}

// ring is edges that come back to where they began.
func ring(names ...int) []api.Edge {
	return along(append(names, names[0])...)
}

func join(parts ...[]api.Edge) []api.Edge {
	return slices.Concat(parts...)
}

// needing is a grammar that has just some edges.
func needing(names int, edges ...api.Edge) api.Grammar {
	g := named(names)
	for i := range names {
		x := rule(i, row(), rowNot())
		for _, e := range edges {
			if e.From == i && e.Neg {
				x.Conj[1].Seq = append(x.Conj[1].Seq, ref(e.To))
			} else if e.From == i {
				x.Conj[0].Seq = append(x.Conj[0].Seq, ref(e.To))
			}
		}
		g.Rules = append(g.Rules, x)
	}
	return g
}

// brief tells the beginning of something that may be long.
func brief(x any) string {
	return fmt.Sprintf("%.300s", fmt.Sprint(x))
}

// wantLevels: P8.1: a grammar has these levels and no cycle.
func wantLevels(t *testing.T, g api.Grammar, want ...int) {
	t.Helper()
	levels, cycle, e := strata.Strata(g)
	if !slices.Equal(levels, want) || cycle != nil || e != api.OK {
		t.Errorf("P8.1: Strata(%s) = %v, %v, %d, not %v", brief(g), levels, cycle, e, want)
	}
}

// wantCycle: P8.1: a grammar has this cycle and no levels.
func wantCycle(t *testing.T, g api.Grammar, want ...int) {
	t.Helper()
	levels, cycle, e := strata.Strata(g)
	if levels != nil || !slices.Equal(cycle, want) || e != api.ErrStrataCycle {
		t.Errorf("P8.1: Strata(%s) = %v, %v, %d, not the cycle %v", brief(g), levels, cycle, e, want)
	}
}

// wantNone: P8.1: a grammar that may not be has neither.
func wantNone(t *testing.T, what string, g api.Grammar) {
	t.Helper()
	levels, cycle, e := strata.Strata(g)
	if levels != nil || cycle != nil || e != api.ErrStrataForm {
		t.Errorf("P8.1: %s: Strata(%s) = %v, %v, %d", what, brief(g), levels, cycle, e)
	}
}

func TestWhatMayNotBe(t *testing.T) {
	for _, s := range samples.MayNotBe() {
		wantNone(t, s.What, s.Grammar)
	}
	wantLevels(t, samples.Plain(), 1, 0)
}

// TestMayNotBeComesFirst: R6: a grammar that may not be has no cycle either.
func TestMayNotBeComesFirst(t *testing.T) {
	g := needing(2, isNot(0, 0), isNot(1, 0))
	wantCycle(t, g, 0)
	g.Start = 2
	wantNone(t, "a start above", g)
	g = needing(2, isNot(0, 0))
	g.Rules[1].Conj[0].Seq = []api.Symbol{span(2, 1)}
	wantNone(t, "a range the wrong way behind a cycle", g)
}

func TestTexts(t *testing.T) {
	wantLevels(t, samples.Read(`start S; S = "a" S | "";`), 0)
	wantLevels(t, samples.Read(`start S; S = A & ~ B | "x"; A = "a" A | ""; B = ~ A "b" & S2; S2 = "";`), 2, 0, 1, 0)
	wantCycle(t, samples.Read(`start S; S = ~ S;`), 0)
	wantCycle(t, samples.Read(`start S; S = "a" | T & ~ "b"; T = "c" & ~ "d" S "e";`), 1, 0)
}

func TestItself(t *testing.T) {
	wantCycle(t, needing(1, isNot(0, 0)), 0)
	wantCycle(t, needing(3, isNot(2, 2)), 2)
	wantCycle(t, needing(1, is(0, 0), isNot(0, 0)), 0)
	wantCycle(t, needing(3, join(ring(0, 1, 2), []api.Edge{isNot(1, 1)})...), 1)
	wantLevels(t, needing(1, is(0, 0)), 0)
	wantLevels(t, needing(3, is(2, 2), isNot(0, 2), is(0, 0)), 1, 0, 0)
	wantCycle(t, needing(api.MaxNames, isNot(api.MaxNames-1, api.MaxNames-1)), api.MaxNames-1)
}

func TestBackOverNames(t *testing.T) {
	wantCycle(t, needing(2, isNot(0, 1), is(1, 0)), 0, 1)
	wantCycle(t, needing(2, is(0, 1), isNot(1, 0)), 1, 0)
	wantCycle(t, needing(3, isNot(0, 1), is(1, 2), is(2, 0)), 0, 1, 2)
	wantCycle(t, needing(3, is(0, 1), isNot(1, 2), is(2, 0)), 1, 2, 0)
	wantCycle(t, needing(3, is(0, 1), is(1, 2), isNot(2, 0)), 2, 0, 1)
	wantCycle(t, needing(5, join(along(1, 4, 2, 3, 0), []api.Edge{isNot(0, 1)})...), 0, 1, 4, 2, 3)
	wantCycle(t, needing(5, join(along(0, 4, 1, 3), []api.Edge{isNot(3, 0)})...), 3, 0, 4, 1)
	// Names beside the way are none of the cycle.
	wantCycle(t, needing(5, is(0, 1), is(1, 2), isNot(2, 3), is(3, 1), is(3, 4), is(4, 4)), 2, 3, 1)
}

// TestAllNamesInARing: the longest cycle that there is, from each name on.
func TestAllNamesInARing(t *testing.T) {
	for first := range api.MaxNames {
		var edges []api.Edge
		var want []int
		for i := range api.MaxNames {
			edges = append(edges, is(i, (i+1)%api.MaxNames))
			want = append(want, (first+i)%api.MaxNames)
		}
		edges[first].Neg = true
		wantCycle(t, needing(api.MaxNames, edges...), want...)
	}
}

// TestShortest: of ways of unlike lengths the shortest one, however its names
// compare.
func TestShortest(t *testing.T) {
	wantCycle(t, needing(5, join(along(1, 2, 3, 0), along(1, 4, 0), []api.Edge{isNot(0, 1)})...), 0, 1, 4)
	wantCycle(t, needing(5, join(along(1, 3, 4, 0), along(1, 2, 0), []api.Edge{isNot(0, 1)})...), 0, 1, 2)
	wantCycle(t, needing(3, join(along(1, 2, 0), along(1, 0), []api.Edge{isNot(0, 1)})...), 0, 1)
	wantCycle(t, needing(5, join(along(4, 0, 1, 3), along(4, 2, 3), []api.Edge{isNot(3, 4)})...), 3, 4, 2)
	// Back by a negated edge, as that is the shorter way.
	wantCycle(t, needing(3, isNot(0, 1), is(1, 2), is(2, 0), isNot(1, 0)), 0, 1)
	wantCycle(t, needing(4, isNot(0, 3), is(3, 1), is(1, 2), is(2, 0), isNot(3, 2)), 0, 3, 2)
}

// TestLeastNames: of ways of one length the one whose names are least, one by
// one, the first ones ahead.
func TestLeastNames(t *testing.T) {
	wantCycle(t, needing(4, join(along(1, 2, 0), along(1, 3, 0), []api.Edge{isNot(0, 1)})...), 0, 1, 2)
	wantCycle(t, needing(4, join(along(3, 2, 0), along(3, 1, 0), []api.Edge{isNot(0, 3)})...), 0, 3, 1)
	// The lesser name ahead, though the greater one stands behind it.
	wantCycle(t, needing(6, join(along(1, 2, 5, 0), along(1, 3, 4, 0), []api.Edge{isNot(0, 1)})...), 0, 1, 2, 5)
	wantCycle(t, needing(6, join(along(1, 3, 2, 0), along(1, 4, 5, 0), []api.Edge{isNot(0, 1)})...), 0, 1, 3, 2)
	// The ways part only at their last name.
	wantCycle(t, needing(6, join(along(1, 2, 3, 5, 0), along(3, 4, 0), []api.Edge{isNot(0, 1)})...), 0, 1, 2, 3, 4)
	// The least name of all leads nowhere in time.
	wantCycle(t, needing(7, join(along(2, 1, 1), along(2, 4, 0), along(1, 5, 6, 0), []api.Edge{isNot(0, 2)})...), 0, 2, 4)
	// A name that is less than where the cycle begins.
	wantCycle(t, needing(4, join(along(2, 0, 3), along(2, 1, 3), []api.Edge{isNot(3, 2)})...), 3, 2, 0)
}

// TestFirstNegation: of several negated edges in cycles the first one in the
// row of edges, though another one has a shorter cycle.
func TestFirstNegation(t *testing.T) {
	wantCycle(t, needing(3, isNot(2, 2), isNot(1, 1)), 1)
	wantCycle(t, needing(4, join(ring(0, 1, 2), []api.Edge{isNot(3, 3), isNot(0, 1)})...), 0, 1, 2)
	wantCycle(t, needing(3, isNot(0, 2), isNot(0, 1), is(1, 0), is(2, 0)), 0, 1)
	wantCycle(t, needing(3, isNot(0, 2), isNot(0, 1), is(1, 2), is(2, 0)), 0, 1, 2)
	wantCycle(t, needing(2, isNot(0, 1), isNot(1, 0)), 0, 1)
	wantCycle(t, needing(2, isNot(0, 1), isNot(0, 0), is(1, 0)), 0)
	wantCycle(t, needing(2, isNot(1, 1), isNot(0, 1), is(1, 0)), 0, 1)
	// A negated edge outside every cycle stands ahead of it.
	wantCycle(t, needing(4, isNot(0, 1), isNot(0, 3), isNot(1, 3), is(2, 3), isNot(3, 2)), 3, 2)
}

func TestCycleWithoutNegation(t *testing.T) {
	wantLevels(t, needing(2, ring(0, 1)...), 0, 0)
	wantLevels(t, needing(4, join(ring(0, 1, 2, 3), ring(1, 0), ring(2, 2))...), 0, 0, 0, 0)
	wantLevels(t, needing(3, is(0, 0), is(1, 1), is(2, 2), is(0, 2)), 0, 0, 0)
}

func TestNegationOutsideCycles(t *testing.T) {
	wantLevels(t, needing(2, isNot(0, 1)), 1, 0)
	wantLevels(t, needing(2, isNot(1, 0)), 0, 1)
	// Between two rings, out of one, into one.
	wantLevels(t, needing(4, join(ring(0, 1), ring(2, 3), []api.Edge{isNot(1, 2)})...), 1, 1, 0, 0)
	wantLevels(t, needing(4, join(ring(0, 1), ring(2, 3), []api.Edge{isNot(3, 0)})...), 0, 0, 1, 1)
	wantLevels(t, needing(3, join(ring(0, 1), []api.Edge{isNot(0, 2)})...), 1, 1, 0)
	wantLevels(t, needing(3, join(ring(0, 1), []api.Edge{isNot(2, 0)})...), 0, 0, 1)
}

func TestNoNegations(t *testing.T) {
	wantLevels(t, needing(1), 0)
	wantLevels(t, needing(3), 0, 0, 0)
	wantLevels(t, needing(5, along(4, 2, 0, 1, 3)...), 0, 0, 0, 0, 0)
	wantLevels(t, needing(api.MaxNames, is(63, 0), is(0, 63)), make([]int, api.MaxNames)...)
	// A negated conjunct without a name is no edge.
	wantLevels(t, named(2, rule(0, rowNot(span('a', 'z'))), rule(0, rowNot()), rule(1, row(ref(0)))), 0, 0)
}

func TestLevels(t *testing.T) {
	wantLevels(t, needing(3, is(0, 1), isNot(1, 2)), 1, 1, 0)
	wantLevels(t, needing(3, isNot(0, 1), is(1, 2)), 1, 0, 0)
	wantLevels(t, needing(3, isNot(0, 1), isNot(1, 2)), 2, 1, 0)
	// Both with and without: as if without were not there.
	wantLevels(t, needing(2, is(0, 1), isNot(0, 1)), 1, 0)
	// The highest of several.
	wantLevels(t, needing(4, isNot(0, 3), is(0, 1), isNot(1, 2), isNot(2, 3)), 2, 2, 1, 0)
	wantLevels(t, needing(4, is(0, 3), is(0, 1), isNot(1, 2), is(2, 3)), 1, 1, 0, 0)
	wantLevels(t, needing(5, isNot(4, 0), isNot(4, 3), is(0, 1), isNot(1, 2)), 1, 1, 0, 0, 2)
	// Who needs nothing is at 0, whoever needs it.
	wantLevels(t, needing(4, isNot(0, 2), isNot(1, 2), is(3, 2)), 1, 1, 0, 0)
}

// TestNegationsInARow: each name needs the next one's negation.
func TestNegationsInARow(t *testing.T) {
	for names := 1; names <= api.MaxNames; names++ {
		var down, up []api.Edge
		var falling, rising []int
		for i := range names {
			if i > 0 {
				down, up = append(down, isNot(i-1, i)), append(up, isNot(i, i-1))
			}
			falling, rising = append(falling, names-1-i), append(rising, i)
		}
		wantLevels(t, needing(names, down...), falling...)
		wantLevels(t, needing(names, up...), rising...)
	}
}

// TestRings: all of a ring have the level that one of them must have.
func TestRings(t *testing.T) {
	wantLevels(t, needing(4, join(ring(0, 1, 2), []api.Edge{isNot(1, 3)})...), 1, 1, 1, 0)
	wantLevels(t, needing(4, join(ring(3, 2, 1), []api.Edge{isNot(1, 0)})...), 0, 1, 1, 1)
	wantLevels(t, needing(6, join(ring(0, 3), ring(1, 4), ring(2, 5), []api.Edge{isNot(3, 1), isNot(4, 2)})...),
		2, 1, 0, 2, 1, 0)
	var edges []api.Edge
	want := []int{0}
	for i := 1; i < api.MaxNames; i++ {
		edges, want = append(edges, is(i, i%(api.MaxNames-1)+1)), append(want, 1)
	}
	wantLevels(t, needing(api.MaxNames, append(edges, isNot(32, 0))...), want...)
}

// TestWhateverTheRow: the same names and edges, numbered and written in any
// row, have the same levels.
func TestWhateverTheRow(t *testing.T) {
	edges := []api.Edge{isNot(0, 1), is(1, 2), isNot(2, 3), is(0, 3), is(2, 1)}
	levels := []int{2, 1, 1, 0}
	samples.EachOrder(4, func(order []int) {
		var turned []api.Edge
		want := make([]int, 4)
		for _, e := range edges {
			turned = append(turned, api.Edge{From: order[e.From], To: order[e.To], Neg: e.Neg})
		}
		for i, level := range levels {
			want[order[i]] = level
		}
		wantLevels(t, needing(4, turned...), want...)
	})
	parts := []api.Conjunct{row(ref(1), ref(0)), rowNot(ref(2)), row(ref(2)), rowNot()}
	samples.EachOrder(4, func(order []int) {
		var rules []api.Rule
		var inOne []api.Conjunct
		for _, i := range order {
			rules, inOne = append(rules, rule(0, parts[i])), append(inOne, parts[i])
		}
		rest := []api.Rule{rule(1, row()), rule(2, rowNot(ref(1)))}
		wantLevels(t, named(3, append(rules, rest...)...), 2, 0, 1)
		wantLevels(t, named(3, append([]api.Rule{rule(0, inOne...)}, rest...)...), 2, 0, 1)
	})
}

// TestStartSaysNothing: neither the start nor what names are called counts.
func TestStartSaysNothing(t *testing.T) {
	for start := range 3 {
		g := needing(3, isNot(1, 2), is(0, 2))
		g.Start, g.Names = start, []string{"z", "y", "x"}
		wantLevels(t, g, 0, 1, 0)
		g = needing(3, isNot(1, 2), is(2, 1))
		g.Start, g.Names = start, []string{"z", "y", "x"}
		wantCycle(t, g, 1, 2)
	}
}

// plainCycle is the chapter's sentence once more: the ways from To, grown by
// one edge at a time, till some of them come to From; of each name the least
// way of each length is enough, as what follows is the same.
func plainCycle(names int, edges []api.Edge) []int {
	for _, first := range edges {
		if !first.Neg {
			continue
		}
		if first.To == first.From {
			return []int{first.From}
		}
		ways := make([][]int, names)
		ways[first.To] = []int{first.To}
		for range names {
			ways = grown(ways, edges)
			if way := ways[first.From]; way != nil {
				return append([]int{first.From}, way[:len(way)-1]...)
			}
		}
	}
	return nil
}

// grown is the least ways to each name that are one edge longer.
func grown(ways [][]int, edges []api.Edge) [][]int {
	out := make([][]int, len(ways))
	for _, e := range edges {
		if ways[e.From] == nil {
			continue
		}
		longer := append(slices.Clone(ways[e.From]), e.To)
		if out[e.To] == nil || slices.Compare(longer, out[e.To]) < 0 {
			out[e.To] = longer
		}
	}
	return out
}

// plainLevels is of each name the most negations on a row of edges from it:
// where no cycle has one, rows that meet no name twice have as many.
func plainLevels(names int, edges []api.Edge) []int {
	most := make([]int, names)
	for range names {
		next := make([]int, names)
		for _, e := range edges {
			count := most[e.To]
			if e.Neg {
				count++
			}
			next[e.From] = max(next[e.From], count)
		}
		most = next
	}
	return most
}

// wantPlainly holds a grammar against the chapter read once more, and tells
// whether it has a cycle.
func wantPlainly(t *testing.T, g api.Grammar) bool {
	t.Helper()
	edges, _ := deps.Edges(g)
	if cycle := plainCycle(len(g.Names), edges); cycle != nil {
		wantCycle(t, g, cycle...)
		return true
	}
	wantLevels(t, g, plainLevels(len(g.Names), edges)...)
	return false
}

// TestAllSmallGrammars: each two of up to three names have no edge, one of
// either sign, or, of up to two names, both.
func TestAllSmallGrammars(t *testing.T) {
	for _, c := range []struct{ names, kinds int }{{1, 4}, {2, 4}, {3, 3}} {
		cycles, levels := 0, 0
		samples.EachChoice(c.names*c.names, c.kinds, func(chosen []int) {
			var edges []api.Edge
			for i, kind := range chosen {
				from, to := i/c.names, i%c.names
				edges = append(edges, [][]api.Edge{nil, {is(from, to)}, {isNot(from, to)}, {is(from, to), isNot(from, to)}}[kind]...)
			}
			g := needing(c.names, edges...)
			if wantPlainly(t, g) {
				cycles++
				return
			}
			levels++
			wantLeast(t, g, edges)
		})
		if cycles < 2 || levels < 2 {
			t.Errorf("%d names: %d cycles, %d levels", c.names, cycles, levels)
		}
	}
}

// wantLeast: P8.1: levels are as the edges ask, and all others that are have
// none below them.
func wantLeast(t *testing.T, g api.Grammar, edges []api.Edge) {
	t.Helper()
	levels, _, _ := strata.Strata(g)
	found := false
	samples.EachChoice(len(g.Names), len(g.Names), func(chosen []int) {
		for _, e := range edges {
			if chosen[e.From] < chosen[e.To] || e.Neg && chosen[e.From] == chosen[e.To] {
				return
			}
		}
		found = found || slices.Equal(chosen, levels)
		for i := range levels {
			if chosen[i] < levels[i] {
				t.Errorf("P8.1: %v: %v, not %v", edges, levels, chosen)
			}
		}
	})
	if !found {
		t.Errorf("P8.1: %v: %v are not as the edges ask", edges, levels)
	}
}

func TestMixedGrammars(t *testing.T) {
	r := samples.Numbers(8)
	cycles := 0
	for range 2000 {
		if wantPlainly(t, r.Grammar(8)) {
			cycles++
		}
	}
	if cycles < 100 || cycles > 1900 {
		t.Errorf("%d cycles", cycles)
	}
}

// TestMixedEdges: few edges among many names, so that ways are long; with
// rare negations there are levels and cycles.
func TestMixedEdges(t *testing.T) {
	r := samples.Numbers(88)
	cycles, high, long := 0, 0, 0
	for range 1500 {
		names := 2 + r.Next(api.MaxNames-1)
		var edges []api.Edge
		for range names + r.Next(names) {
			from, to := r.Next(names), r.Next(names)
			if r.Next(2) == 0 {
				from, to = max(from, to), min(from, to)
			}
			edges = append(edges, api.Edge{From: from, To: to, Neg: from > to && r.Next(8) == 0})
		}
		g := needing(names, edges...)
		if wantPlainly(t, g) {
			cycles++
		}
		levels, cycle, _ := strata.Strata(g)
		long = max(long, len(cycle))
		for _, level := range levels {
			high = max(high, level)
		}
	}
	if cycles < 100 || cycles > 1400 || high < 3 || long < 8 {
		t.Errorf("%d cycles, levels to %d, cycles of up to %d", cycles, high, long)
	}
}

// TestManyEdges: as many edges as there can be.
func TestManyEdges(t *testing.T) {
	const each = api.MaxSymbols / api.MaxNames
	levels, cycles := named(api.MaxNames), named(api.MaxNames)
	for i := range api.MaxNames {
		down, round := rowNot(), row()
		for j := range each {
			down.Seq = append(down.Seq, ref(max(i-j-1, 0)))
			round.Seq = append(round.Seq, ref((i+j+1)%api.MaxNames))
		}
		if i == 0 {
			down = row()
		}
		round.Neg = i == api.MaxNames-1
		levels.Rules = append(levels.Rules, rule(i, down))
		cycles.Rules = append(cycles.Rules, rule(i, round))
	}
	wantPlainly(t, levels)
	if got, _, _ := strata.Strata(levels); len(got) != api.MaxNames || got[api.MaxNames-1] != api.MaxNames-1 {
		t.Errorf("P8.1: %v", got)
	}
	wantPlainly(t, cycles)
	wantCycle(t, cycles, 63, 0, 15, 31, 47)
}

// TestGrammarStaysAsItWas: R4: what is handed in is not changed, its spare
// room neither, and what was answered does not hang on it any more.
func TestGrammarStaysAsItWas(t *testing.T) {
	may, cyclic, spoiled := samples.Plain(), samples.Plain(), samples.Plain()
	cyclic.Rules[2].Conj[0].Seq[0] = ref(0)
	spoiled.Start = 2
	for _, g := range []api.Grammar{may, cyclic, spoiled} {
		given := samples.Roomy(g)
		levels, cycle, e := strata.Strata(given)
		if !samples.Same(given, samples.Roomy(g)) {
			t.Errorf("R4: Strata changed %v into %v", g, given)
		}
		given.Rules[0].Conj[1].Neg = false
		given.Rules[2].Conj[0].Seq[0] = ref(1)
		levels2, cycle2, e2 := strata.Strata(g)
		if !slices.Equal(levels, levels2) || !slices.Equal(cycle, cycle2) || e != e2 {
			t.Errorf("R4: %v, %v, %d, not %v, %v, %d", levels, cycle, e, levels2, cycle2, e2)
		}
	}
}

// TestAnswersAreApart: R4: whoever changes an answer, its spare room too,
// changes no other one.
func TestAnswersAreApart(t *testing.T) {
	scribble := func(list []int) {
		for i := range list[:cap(list)] {
			list[:cap(list)][i] = 99
		}
	}
	g, h := needing(3, isNot(0, 1), isNot(1, 2)), needing(3, isNot(0, 1), is(1, 2), is(2, 0))
	levels, _, _ := strata.Strata(g)
	levels2, _, _ := strata.Strata(g)
	_, cycle, _ := strata.Strata(h)
	_, cycle2, _ := strata.Strata(h)
	scribble(levels)
	scribble(cycle)
	if !slices.Equal(levels2, []int{2, 1, 0}) || !slices.Equal(cycle2, []int{0, 1, 2}) {
		t.Errorf("R4: %v, %v", levels2, cycle2)
	}
	wantLevels(t, g, 2, 1, 0)
	wantCycle(t, h, 0, 1, 2)
}

// TestNothingIsKept: R5: what is answered hangs on the grammar alone; many
// times the same call answers the same.
func TestNothingIsKept(t *testing.T) {
	r := samples.Numbers(888)
	g, h := needing(3, isNot(0, 1), is(1, 2)), needing(3, isNot(1, 2), is(2, 0), is(0, 1))
	for range 200 {
		strata.Strata(r.Grammar(api.MaxNames))
		wantLevels(t, g, 1, 0, 0)
		wantNone(t, "nothing", api.Grammar{})
		wantCycle(t, h, 1, 2, 0)
	}
}

func TestSeveralGoroutines(t *testing.T) {
	g, h := samples.Plain(), needing(2, isNot(0, 1), is(1, 0))
	bad := needing(2, is(0, 9))
	var group sync.WaitGroup
	for range 8 {
		group.Go(func() {
			for range 100 {
				wantLevels(t, g, 1, 0)
				wantCycle(t, h, 0, 1)
				wantNone(t, "a name above", bad)
			}
		})
	}
	group.Wait()
}

// TestGreatGrammars: R1: what is far too much is refused in a time that its
// size explains.
func TestGreatGrammars(t *testing.T) {
	for _, c := range samples.Great() {
		wantNone(t, c.What, c.Grammar)
	}
}

// TestAnyNumbers: R1: no numbers make a panic; what may be is told of, all
// else is refused.
func TestAnyNumbers(t *testing.T) {
	for _, g := range samples.AnyNumbers() {
		wantTold(t, g)
	}
}

// wantTold: a grammar is told of just if it may be.
func wantTold(t *testing.T, g api.Grammar) {
	t.Helper()
	if !gram.May(g) {
		wantNone(t, "may not be", g)
		return
	}
	wantPlainly(t, g)
}
