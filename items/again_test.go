package items_test

import (
	"slices"
	"testing"

	"temple/api"
	"temple/items"
	"temple/samples"
	"temple/seqs"
)

// standing is what stands at a place, if it is not the end.
func standing(g api.Grammar, p api.Place) (api.Symbol, bool) {
	seq := g.Rules[p.Rule].Conj[p.Conj].Seq
	if p.Pos == len(seq) {
		return api.Symbol{}, false
	}
	return seq[p.Pos], true
}

// ledTo is which names some places lead to, each 1 or 0: those that stand there,
// and, till there are no more, those at whose heads they stand.
func ledTo(g api.Grammar, ps []api.Place) []int {
	names := make([]int, len(g.Names))
	for _, p := range ps {
		if s, ok := standing(g, p); ok && s.Name >= 0 {
			names[s.Name] = 1
		}
	}
	for old := []int(nil); !slices.Equal(old, names); {
		old = slices.Clone(names)
		for _, r := range g.Rules {
			for _, c := range r.Conj {
				if names[r.Head] == 1 && len(c.Seq) > 0 && c.Seq[0].Name >= 0 {
					names[c.Seq[0].Name] = 1
				}
			}
		}
	}
	return names
}

// closeAgain is the chapter's sentence once more: of all places, in their row,
// those that are given, and those at the heads of names that these lead to.
func closeAgain(g api.Grammar, ps []api.Place) []api.Place {
	names := ledTo(g, ps)
	given := make(map[api.Place]int)
	for _, p := range ps {
		given[p] = 1
	}
	var out []api.Place
	for i, r := range g.Rules {
		for c, x := range r.Conj {
			for pos := range len(x.Seq) + 1 {
				p := api.Place{Rule: i, Conj: c, Pos: pos}
				if pos == 0 && names[r.Head] == 1 || given[p] == 1 {
					out = append(out, p)
				}
			}
		}
	}
	return out
}

// stepsAgain is the symbols at some places, in the row in which they first stand
// there, and of each the places it stands at, one on.
func stepsAgain(g api.Grammar, ps []api.Place) ([]api.Symbol, [][]api.Place) {
	var found []api.Symbol
	for _, p := range ps {
		if s, ok := standing(g, p); ok && !slices.Contains(found, s) {
			found = append(found, s)
		}
	}
	on := make([][]api.Place, len(found))
	for i, s := range found {
		for _, p := range ps {
			if at, ok := standing(g, p); ok && at == s {
				on[i] = append(on[i], api.Place{Rule: p.Rule, Conj: p.Conj, Pos: p.Pos + 1})
			}
		}
	}
	return found, on
}

// beginAgain is the places 0 of all conjuncts of the start's rules.
func beginAgain(g api.Grammar) []api.Place {
	var out []api.Place
	all, _ := seqs.Places(g)
	for _, p := range all {
		if p.Pos == 0 && g.Rules[p.Rule].Head == g.Start {
			out = append(out, p)
		}
	}
	return out
}

// wantAgain holds an automaton against the chapter's sentences once more: each
// must hold of it. States that are told in the row in which moves first lead
// there, no two of the same places, can stand in one row only.
func wantAgain(t *testing.T, g api.Grammar) api.Automaton {
	t.Helper()
	a := built(t, g)
	if len(a.States) == 0 || !slices.Equal(a.States[0], closeAgain(g, beginAgain(g))) {
		t.Fatalf("P13.2: %s: state 0 of %s", brief(g), brief(a.States))
	}
	left, seen := a.Moves, 1
	for from, state := range a.States {
		found, on := stepsAgain(g, state)
		for i, s := range found {
			if len(left) == 0 || left[0].From != from || left[0].Symbol != s {
				t.Fatalf("P13.2: %s: state %d by %v: then %s", brief(g), from, s, brief(left))
			}
			to := left[0].To
			if to < 0 || to > seen || to >= len(a.States) || !slices.Equal(a.States[to], closeAgain(g, on[i])) {
				t.Fatalf("P13.2: %s: state %d by %v to %d of %s", brief(g), from, s, to, brief(a.States))
			}
			seen = max(seen, to+1)
			left = left[1:]
		}
	}
	if len(left) > 0 || seen != len(a.States) {
		t.Fatalf("P13.2: %s: %d states, %s more", brief(g), len(a.States)-seen, brief(left))
	}
	for i, one := range a.States {
		for _, other := range a.States[:i] {
			if slices.Equal(one, other) {
				t.Fatalf("P13.2: %s: %v twice", brief(g), one)
			}
		}
	}
	return a
}

// built is the automaton of a grammar that has one.
func built(t *testing.T, g api.Grammar) api.Automaton {
	t.Helper()
	a, e := items.Build(g)
	if e != api.OK {
		t.Fatalf("P13.2: Build(%s): %d", brief(g), e)
	}
	return a
}

// wantCloseAgain holds Close against the chapter's sentence once more.
func wantCloseAgain(t *testing.T, g api.Grammar, ps ...api.Place) {
	t.Helper()
	wantClose(t, g, ps, closeAgain(g, ps)...)
}

// TestAllSmallGrammars: each place alone, all pairs of places, and the automaton
// of all grammars of two names and three small conjuncts.
func TestAllSmallGrammars(t *testing.T) {
	a, b := span('a', 'a'), span('a', 'b')
	conjuncts := []api.Conjunct{
		row(), rowNot(ref(0)), row(ref(1)), row(a, ref(0)), rowNot(b, a),
		row(ref(1), ref(0)), rowNot(ref(0), b), row(ref(1), a, ref(1)),
	}
	samples.EachChoice(3, len(conjuncts), func(chosen []int) {
		x, y, z := conjuncts[chosen[0]], conjuncts[chosen[1]], conjuncts[chosen[2]]
		for _, g := range []api.Grammar{
			named(2, rule(0, x), rule(1, y, z)),
			named(2, rule(0, x), rule(0, y), rule(1, z)),
		} {
			places, _ := seqs.Places(g)
			for _, p := range places {
				for _, q := range places {
					wantCloseAgain(t, g, p, q)
				}
			}
			for start := range 2 {
				g.Start = start
				wantAgain(t, g)
			}
		}
	})
}

func TestMixedGrammars(t *testing.T) {
	r := samples.Numbers(13)
	loops, most := 0, 0
	for range 1000 {
		for _, g := range []api.Grammar{r.Grammar(5), r.Leveled(5)} {
			wantCloseAgain(t, g, somePlaces(&r, g, 6)...)
			a := wantAgain(t, g)
			most = max(most, len(a.States))
			if slices.ContainsFunc(a.Moves, func(m api.Move) bool { return m.To <= m.From }) {
				loops++
			}
		}
	}
	if loops < 300 || most < 20 {
		t.Errorf("%d that lead back, up to %d states", loops, most)
	}
}

// TestMixedGreatGrammars: many names, of which many have too many states.
func TestMixedGreatGrammars(t *testing.T) {
	r := samples.Numbers(130)
	few, many := 0, 0
	for range 60 {
		g := r.Grammar(api.MaxNames)
		wantCloseAgain(t, g, somePlaces(&r, g, 20)...)
		if a, e := items.Build(g); e == api.ErrItemsMany {
			wantMany(t, "mixed", g)
			many++
		} else if wantAgain(t, g); len(a.States) > 1 {
			few++
		}
	}
	if few < 10 || many < 10 {
		t.Errorf("%d automata, %d of too many states", few, many)
	}
}

// somePlaces is any places of a grammar, up to so many.
func somePlaces(r *samples.Numbers, g api.Grammar, most int) []api.Place {
	all, _ := seqs.Places(g)
	var out []api.Place
	for range r.Next(most + 1) {
		out = append(out, all[r.Next(len(all))])
	}
	return out
}
