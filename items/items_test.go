package items_test

import (
	"fmt"
	"math"
	"slices"
	"sync"
	"testing"

	"temple/api"
	"temple/gram"
	"temple/items"
	"temple/samples"
	"temple/seqs"
	"temple/strata"
)

var (
	ref, span   = samples.Ref, samples.Span
	row, rowNot = samples.Row, samples.RowNot
	rule, named = samples.Rule, samples.Named
)

// at is a place.
func at(rule, conj, pos int) api.Place {
	return api.Place{Rule: rule, Conj: conj, Pos: pos}
}

// some is a list of places.
func some(ps ...api.Place) []api.Place {
	return ps
}

// one is the symbol of one byte.
func one(c byte) api.Symbol {
	return span(int(c), int(c))
}

// brief tells the beginning of something that may be long.
func brief(x any) string {
	return fmt.Sprintf("%.300s", fmt.Sprint(x))
}

// wantClose: P13.1: what some places close to.
func wantClose(t *testing.T, g api.Grammar, ps []api.Place, places ...api.Place) {
	t.Helper()
	if got, e := items.Close(g, ps); !slices.Equal(got, places) || e != api.OK {
		t.Errorf("P13.1: Close(%s, %s) = %s, %d, not %s", brief(g), brief(ps), brief(got), e, brief(places))
	}
}

// wantNoClose: P13.1: a grammar or a place that may not be.
func wantNoClose(t *testing.T, what string, g api.Grammar, ps ...api.Place) {
	t.Helper()
	if got, e := items.Close(g, ps); got != nil || e != api.ErrItemsForm {
		t.Errorf("P13.1: %s: Close(%s, %s) = %s, %d", what, brief(g), brief(ps), brief(got), e)
	}
}

// want: P13.2: the automaton of a grammar.
func want(t *testing.T, g api.Grammar, states [][]api.Place, moves ...api.Move) {
	t.Helper()
	a, e := items.Build(g)
	if e != api.OK || !sameAutomaton(a, api.Automaton{States: states, Moves: moves}) {
		t.Errorf("P13.2: Build(%s) = %v, %d, not %v, %v", brief(g), a, e, states, moves)
	}
}

func sameAutomaton(a, b api.Automaton) bool {
	return slices.EqualFunc(a.States, b.States, slices.Equal) && slices.Equal(a.Moves, b.Moves)
}

// wantNone: P13.2: an error, and nothing beside it.
func wantNone(t *testing.T, what string, g api.Grammar, e api.Errno) {
	t.Helper()
	if a, got := items.Build(g); a.States != nil || a.Moves != nil || got != e {
		t.Errorf("P13.2: %s: Build(%s) = %s, %d, not %d", what, brief(g), brief(a), got, e)
	}
}

func wantMany(t *testing.T, what string, g api.Grammar) {
	t.Helper()
	wantNone(t, what, g, api.ErrItemsMany)
}

// by is a move.
func by(from int, s api.Symbol, to int) api.Move {
	return api.Move{From: from, Symbol: s, To: to}
}

func TestWhatMayNotBe(t *testing.T) {
	for _, s := range samples.MayNotBe() {
		wantNoClose(t, s.What, s.Grammar)
		wantNoClose(t, s.What, s.Grammar, at(0, 0, 0))
		wantNoClose(t, s.What, s.Grammar, at(99, 99, 99))
		wantNone(t, s.What, s.Grammar, api.ErrItemsForm)
	}
	wantClose(t, samples.Plain(), nil)
	wantPlain(t)
}

// wantPlain: the automaton of samples.Plain.
func wantPlain(t *testing.T) {
	t.Helper()
	want(t, samples.Plain(),
		[][]api.Place{some(at(2, 0, 0)), some(at(2, 0, 1)), some(at(2, 0, 2))},
		by(0, span(0, 255), 1), by(1, one('x'), 2))
	wantClose(t, samples.Plain(), some(at(0, 0, 2)),
		at(0, 0, 0), at(0, 0, 2), at(0, 1, 0), at(1, 0, 0), at(2, 0, 0))
}

// TestNameWithoutRules: a grammar may not be, if a name of it has no rules,
// whether that name is the start, stands somewhere or nowhere.
func TestNameWithoutRules(t *testing.T) {
	for _, g := range []api.Grammar{
		named(2, rule(0, row())),
		named(2, rule(0, row(ref(1)))),
		named(2, rule(1, row(ref(0)))),
		{Start: 1, Names: []string{"S", "T"}, Rules: []api.Rule{rule(0, row(ref(1)))}},
	} {
		wantNoClose(t, "a name without rules", g)
		wantNoClose(t, "a name without rules", g, at(0, 0, 0))
		wantNone(t, "a name without rules", g, api.ErrItemsForm)
	}
}

// TestNoPlaces: a place that is none is refused, wherever it stands among others.
func TestNoPlaces(t *testing.T) {
	g := samples.Plain()
	all, _ := seqs.Places(g)
	for _, p := range []api.Place{
		at(-1, 0, 0), at(3, 0, 0), at(99, 0, 0), at(math.MinInt, 0, 0), at(math.MaxInt, 0, 0),
		at(0, -1, 0), at(0, 2, 0), at(1, 1, 0), at(2, 1, 0), at(0, math.MinInt, 0), at(0, math.MaxInt, 0),
		at(0, 0, -1), at(0, 0, 4), at(0, 1, 2), at(1, 0, 1), at(2, 0, 3), at(0, 0, math.MinInt), at(0, 0, math.MaxInt),
		at(1, 0, -1), at(0, 1, -1), at(1, -1, 3), at(-1, -1, -1),
		at(1<<32, 0, 0), at(0, 1<<32, 0), at(0, 0, 1<<32),
	} {
		wantNoClose(t, "no place", g, p)
		wantNoClose(t, "no place twice", g, p, p)
		wantNoClose(t, "no place ahead", g, append(some(p), all...)...)
		wantNoClose(t, "no place behind", g, append(slices.Clone(all), p)...)
		wantNoClose(t, "no place between", g, slices.Insert(slices.Clone(all), 4, p)...)
	}
	wantClose(t, g, all, all...)
}

// TestAnyPlaces: of all places round about those are taken that layer 10 tells.
func TestAnyPlaces(t *testing.T) {
	g := samples.Plain()
	all, _ := seqs.Places(g)
	taken := 0
	for r := -2; r < 6; r++ {
		for c := -2; c < 6; c++ {
			for pos := -2; pos < 6; pos++ {
				if p := at(r, c, pos); slices.Contains(all, p) {
					wantCloseAgain(t, g, p)
					taken++
				} else {
					wantNoClose(t, "no place", g, p)
				}
			}
		}
	}
	if taken != len(all) {
		t.Errorf("%d of %d places", taken, len(all))
	}
}

// TestEnds: a conjunct's end is a place, and nothing stands there.
func TestEnds(t *testing.T) {
	g := samples.Read(`start S; S = S "a" | "" & ~ S;`)
	wantClose(t, g, some(at(0, 0, 2)), at(0, 0, 2))
	wantClose(t, g, some(at(1, 0, 0)), at(1, 0, 0))
	wantClose(t, g, some(at(1, 1, 1)), at(1, 1, 1))
	wantClose(t, g, some(at(1, 1, 1), at(1, 0, 0), at(0, 0, 2)), at(0, 0, 2), at(1, 0, 0), at(1, 1, 1))
	wantNoClose(t, "behind an end", g, at(0, 0, 3))
	wantNoClose(t, "behind an end", g, at(1, 0, 1))
	wantNoClose(t, "behind an end", g, at(1, 1, 2))
}

// TestCycles: a grammar in which layer 8 finds a cycle may be, and has answers.
func TestCycles(t *testing.T) {
	long := named(api.MaxNames)
	var heads []api.Place
	for i := range api.MaxNames {
		long.Rules = append(long.Rules, rule(i, rowNot(ref((i+1)%api.MaxNames))))
		heads = append(heads, at(i, 0, 0))
	}
	self := named(1, rule(0, rowNot(ref(0))))
	pair := named(2, rule(0, row(ref(1))), rule(1, row(), rowNot(ref(0))))
	read := samples.Read(`start S; S = "" | ~ "b" S;`)
	for _, g := range []api.Grammar{long, self, pair, read} {
		if _, _, e := strata.Strata(g); e != api.ErrStrataCycle {
			t.Fatalf("%s has no cycle: %d", brief(g), e)
		}
		wantAgain(t, g)
	}
	wantClose(t, self, some(at(0, 0, 0)), at(0, 0, 0))
	want(t, self, [][]api.Place{some(at(0, 0, 0)), some(at(0, 0, 1))}, by(0, ref(0), 1))
	wantClose(t, pair, some(at(1, 1, 0)), at(0, 0, 0), at(1, 0, 0), at(1, 1, 0))
	want(t, pair,
		[][]api.Place{some(at(0, 0, 0), at(1, 0, 0), at(1, 1, 0)), some(at(0, 0, 1)), some(at(1, 1, 1))},
		by(0, ref(1), 1), by(0, ref(0), 2))
	want(t, read,
		[][]api.Place{
			some(at(0, 0, 0), at(1, 0, 0)),
			some(at(0, 0, 0), at(1, 0, 0), at(1, 0, 1)),
			some(at(1, 0, 2)),
		},
		by(0, one('b'), 1), by(1, one('b'), 1), by(1, ref(0), 2))
	wantClose(t, long, some(at(7, 0, 0)), heads...)
}

func TestCloseNothing(t *testing.T) {
	for _, g := range []api.Grammar{samples.Plain(), named(1, rule(0, row(ref(0))))} {
		wantClose(t, g, nil)
		wantClose(t, g, []api.Place{})
	}
}

// TestCloseRanges: at a place with a range nothing is to be closed, whatever
// stands around it.
func TestCloseRanges(t *testing.T) {
	for _, s := range []api.Symbol{one('a'), span(0, 0), span(0, 255), span(255, 255)} {
		g := named(2, rule(0, row(ref(1), s, ref(1))), rule(1, row(ref(0))))
		wantClose(t, g, some(at(0, 0, 1)), at(0, 0, 1))
		wantClose(t, g, some(at(0, 0, 3), at(0, 0, 1)), at(0, 0, 1), at(0, 0, 3))
		wantClose(t, named(1, rule(0, row(s, s))), some(at(0, 0, 0)), at(0, 0, 0))
	}
}

// TestCloseNames: a name that stands at a place brings all places 0 of all
// conjuncts of its rules, negated or not, and no others.
func TestCloseNames(t *testing.T) {
	g := samples.Read(`start S; S = "a" T; T = "b" & ~ "c" & "" | ~ "d" "e" | ""; U = T;`)
	all := some(at(1, 0, 0), at(1, 1, 0), at(1, 2, 0), at(2, 0, 0), at(3, 0, 0))
	wantClose(t, g, some(at(0, 0, 1)), append(some(at(0, 0, 1)), all...)...)
	wantClose(t, g, some(at(4, 0, 0)), append(slices.Clone(all), at(4, 0, 0))...)
	wantClose(t, g, some(at(0, 0, 0)), at(0, 0, 0))
	wantClose(t, g, some(at(0, 0, 2)), at(0, 0, 2))
	wantClose(t, g, some(at(4, 0, 1)), at(4, 0, 1))
	wantClose(t, g, some(at(2, 0, 1)), at(2, 0, 1))
	// A name in a negated conjunct brings them, too.
	g.Rules[4].Conj[0].Neg = true
	wantClose(t, g, some(at(4, 0, 0)), append(slices.Clone(all), at(4, 0, 0))...)
}

// TestCloseAgain: names that stand at what is brought bring theirs.
func TestCloseAgain(t *testing.T) {
	g := samples.Read(`start A; A = "a" B; B = C "b" | "b" E; C = "" & ~ D D; D = "d"; E = "e";`)
	wantClose(t, g, some(at(0, 0, 1)), at(0, 0, 1), at(1, 0, 0), at(2, 0, 0), at(3, 0, 0), at(3, 1, 0), at(4, 0, 0))
	wantClose(t, g, some(at(1, 0, 0)), at(1, 0, 0), at(3, 0, 0), at(3, 1, 0), at(4, 0, 0))
	wantClose(t, g, some(at(3, 1, 1)), at(3, 1, 1), at(4, 0, 0))
	wantClose(t, g, some(at(2, 0, 1)), at(2, 0, 1), at(5, 0, 0))
	// What stands behind a name that may come to nothing is not brought.
	g = samples.Read(`start A; A = B C; B = ""; C = "c";`)
	wantClose(t, g, some(at(0, 0, 0)), at(0, 0, 0), at(1, 0, 0))
	wantClose(t, g, some(at(0, 0, 1)), at(0, 0, 1), at(2, 0, 0))
}

// TestCloseLoops: names that lead to themselves or to one another bring theirs
// once.
func TestCloseLoops(t *testing.T) {
	g := samples.Read(`start S; S = S S | "a" S;`)
	wantClose(t, g, some(at(0, 0, 0)), at(0, 0, 0), at(1, 0, 0))
	wantClose(t, g, some(at(0, 0, 1)), at(0, 0, 0), at(0, 0, 1), at(1, 0, 0))
	wantClose(t, g, some(at(1, 0, 1)), at(0, 0, 0), at(1, 0, 0), at(1, 0, 1))
	wantClose(t, g, some(at(1, 0, 0)), at(1, 0, 0))
	g = samples.Read(`start S; S = T "a"; T = U; U = S "b" | "u";`)
	round := some(at(0, 0, 0), at(1, 0, 0), at(2, 0, 0), at(3, 0, 0))
	for r := range 3 {
		wantClose(t, g, some(at(r, 0, 0)), round...)
	}
	wantClose(t, g, some(at(3, 0, 0)), at(3, 0, 0))
	// The longest way round.
	long := named(api.MaxNames)
	var heads []api.Place
	for i := range api.MaxNames {
		long.Rules = append(long.Rules, rule(i, row(ref((i+api.MaxNames-1)%api.MaxNames))))
		heads = append(heads, at(i, 0, 0))
	}
	for i := range api.MaxNames {
		wantClose(t, long, some(at(i, 0, 0)), heads...)
	}
}

// TestRowSaysNothing: neither the row of what is handed in nor how often a
// place stands in it is seen.
func TestRowSaysNothing(t *testing.T) {
	g := samples.Read(`start S; S = T "a" & ~ U | "a" S; T = "" & "t" T; U = "u";`)
	given := some(at(0, 1, 1), at(1, 0, 0), at(2, 1, 1), at(1, 0, 2))
	closed := some(at(0, 1, 1), at(1, 0, 0), at(1, 0, 2), at(2, 0, 0), at(2, 1, 0), at(2, 1, 1))
	samples.EachOrder(len(given), func(order []int) {
		var mixed []api.Place
		for _, i := range order {
			mixed = append(mixed, given[i])
		}
		wantClose(t, g, mixed, closed...)
		wantClose(t, g, append(mixed, mixed...), closed...)
		wantClose(t, g, append(some(mixed[3], mixed[3]), mixed...), closed...)
	})
	// What is closed is closed, in any row.
	wantClose(t, g, closed, closed...)
	slices.Reverse(closed)
	wantClose(t, g, closed, closeAgain(g, closed)...)
}

func TestBuildPlainly(t *testing.T) {
	want(t, named(1, rule(0, row())), [][]api.Place{some(at(0, 0, 0))})
	want(t, named(1, rule(0, rowNot())), [][]api.Place{some(at(0, 0, 0))})
	want(t, named(1, rule(0, row(), rowNot()), rule(0, row())),
		[][]api.Place{some(at(0, 0, 0), at(0, 1, 0), at(1, 0, 0))})
	want(t, named(1, rule(0, row(one('a')))),
		[][]api.Place{some(at(0, 0, 0)), some(at(0, 0, 1))}, by(0, one('a'), 1))
	want(t, samples.Read(`start S; S = "ab";`),
		[][]api.Place{some(at(0, 0, 0)), some(at(0, 0, 1)), some(at(0, 0, 2))},
		by(0, one('a'), 1), by(1, one('b'), 2))
}

// TestStarts: state 0 is of the start's rules, wherever they stand, and of what
// they lead to.
func TestStarts(t *testing.T) {
	g := samples.Read(`start S; S = T & ~ "s" | ""; T = "t" U; U = "u" | ~ "v";`)
	closed := [][]api.Place{
		some(at(0, 0, 0), at(0, 1, 0), at(1, 0, 0), at(2, 0, 0)),
		some(at(2, 0, 0)),
		some(at(3, 0, 0), at(4, 0, 0)),
	}
	for start, state := range closed {
		g.Start = start
		if a := wantAgain(t, g); !slices.Equal(a.States[0], state) {
			t.Errorf("P13.2: %v of %d, not %v", a.States[0], start, state)
		}
	}
}

// TestSymbolsOnce: the symbols of a state in the row in which they first stand
// at its places, each once; To has all places at which it stands, one on.
func TestSymbolsOnce(t *testing.T) {
	g := named(2,
		rule(0, row(one('b')), rowNot(ref(1), one('b')), row(one('a'))),
		rule(0, row(one('b'), ref(1))),
		rule(1, row(one('a')), row(ref(1), ref(0)), row()))
	states := [][]api.Place{
		some(at(0, 0, 0), at(0, 1, 0), at(0, 2, 0), at(1, 0, 0), at(2, 0, 0), at(2, 1, 0), at(2, 2, 0)),
		some(at(0, 0, 1), at(1, 0, 1), at(2, 0, 0), at(2, 1, 0), at(2, 2, 0)),
	}
	a := wantAgain(t, g)
	if !slices.EqualFunc(a.States[:2], states, slices.Equal) {
		t.Errorf("P13.2: %v, not %v", a.States[:2], states)
	}
	moves := []api.Move{by(0, one('b'), 1), by(0, ref(1), 2), by(0, one('a'), 3), by(1, ref(1), 4), by(1, one('a'), 5)}
	if !slices.Equal(a.Moves[:5], moves) {
		t.Errorf("P13.2: %v, not %v", a.Moves[:5], moves)
	}
	if on := some(at(0, 2, 1), at(2, 0, 1)); !slices.Equal(a.States[3], on) {
		t.Errorf("P13.2: %v, not %v", a.States[3], on)
	}
}

// TestRangesAreSymbols: ranges that are not the same are not one symbol, though
// they have bytes in common.
func TestRangesAreSymbols(t *testing.T) {
	g := named(1,
		rule(0, row(span('a', 'c'))), rule(0, row(span('a', 'b'))), rule(0, row(span('b', 'c'))),
		rule(0, row(span('a', 'c'))), rule(0, row(one('a'))), rule(0, row(span(0, 0))), rule(0, row(ref(0))))
	want(t, g,
		[][]api.Place{
			some(at(0, 0, 0), at(1, 0, 0), at(2, 0, 0), at(3, 0, 0), at(4, 0, 0), at(5, 0, 0), at(6, 0, 0)),
			some(at(0, 0, 1), at(3, 0, 1)), some(at(1, 0, 1)), some(at(2, 0, 1)),
			some(at(4, 0, 1)), some(at(5, 0, 1)), some(at(6, 0, 1)),
		},
		by(0, span('a', 'c'), 1), by(0, span('a', 'b'), 2), by(0, span('b', 'c'), 3),
		by(0, one('a'), 4), by(0, span(0, 0), 5), by(0, ref(0), 6))
}

// TestSameStates: a state of the same places is not made again, whoever leads
// there; one of some more places is another one.
func TestSameStates(t *testing.T) {
	// Both ways round lead to the same states, and a state to itself.
	want(t, samples.Read(`start S; S = "a" S | "b";`),
		[][]api.Place{
			some(at(0, 0, 0), at(1, 0, 0)),
			some(at(0, 0, 0), at(0, 0, 1), at(1, 0, 0)),
			some(at(1, 0, 1)),
			some(at(0, 0, 2)),
		},
		by(0, one('a'), 1), by(0, one('b'), 2),
		by(1, one('a'), 1), by(1, ref(0), 3), by(1, one('b'), 2))
	// The same end, alone and beside another one.
	want(t, samples.Read(`start S; S = "a" T | T; T = "c" | "a" "d";`),
		[][]api.Place{
			some(at(0, 0, 0), at(1, 0, 0), at(2, 0, 0), at(3, 0, 0)),
			some(at(0, 0, 1), at(2, 0, 0), at(3, 0, 0), at(3, 0, 1)),
			some(at(1, 0, 1)), some(at(2, 0, 1)), some(at(0, 0, 2)), some(at(3, 0, 1)), some(at(3, 0, 2)),
		},
		by(0, one('a'), 1), by(0, ref(1), 2), by(0, one('c'), 3),
		by(1, ref(1), 4), by(1, one('c'), 3), by(1, one('a'), 5), by(1, one('d'), 6),
		by(5, one('d'), 6))
}

// TestStatesByTheirRow: all moves of a state stand ahead of those of the next
// one, though that was found ahead of them.
func TestStatesByTheirRow(t *testing.T) {
	want(t, samples.Read(`start S; S = "ax" | "by";`),
		[][]api.Place{
			some(at(0, 0, 0), at(1, 0, 0)), some(at(0, 0, 1)), some(at(1, 0, 1)), some(at(0, 0, 2)), some(at(1, 0, 2)),
		},
		by(0, one('a'), 1), by(0, one('b'), 2), by(1, one('x'), 3), by(2, one('y'), 4))
}

// rows is a grammar of rules of so many symbols, no two of which are the same:
// each symbol has a state behind it.
func rows(lengths ...int) api.Grammar {
	g := named(1)
	for i, length := range lengths {
		var seq []api.Symbol
		for k := range length {
			seq = append(seq, span(i, 100+k))
		}
		g.Rules = append(g.Rules, rule(0, row(seq...)))
	}
	return g
}

// chain is a grammar with so many states behind the first one, in few rows.
func chain(states int) api.Grammar {
	var lengths []int
	for left := states; left > 0; left -= api.MaxSeq {
		lengths = append(lengths, min(left, api.MaxSeq))
	}
	return rows(lengths...)
}

// fan is a grammar with so many states behind the first one, which has all
// moves.
func fan(states int) api.Grammar {
	g := named(1)
	for k := range states {
		r := rule(0, row(span(k%100, 100+k/100)))
		if k%2 == 0 {
			g.Rules = append(g.Rules, r)
		} else {
			g.Rules[len(g.Rules)-1].Conj = append(g.Rules[len(g.Rules)-1].Conj, r.Conj...)
		}
	}
	return g
}

// round is a grammar of n names, each of which leads to the next one: of each a
// state behind its byte and one behind its name.
func round(n int) api.Grammar {
	g := named(n)
	for i := range n {
		g.Rules = append(g.Rules, rule(i, row(span(i, i), ref((i+1)%n))))
	}
	return g
}

func TestMostStates(t *testing.T) {
	for n := range 40 {
		for _, g := range []api.Grammar{chain(1 + n*7), fan(1 + n*7)} {
			if states := 2 + n*7; states > api.MaxStates {
				wantMany(t, "too many", g)
			} else if a := wantAgain(t, g); len(a.States) != states {
				t.Errorf("P13.2: %d states, not %d", len(a.States), states)
			}
		}
	}
	for _, many := range []func(states int) api.Grammar{chain, fan} {
		for less := range 3 {
			if a := wantAgain(t, many(api.MaxStates-1-less)); len(a.States) != api.MaxStates-less {
				t.Errorf("P13.2: %d states, not %d", len(a.States), api.MaxStates-less)
			}
		}
		for more := range 3 {
			wantMany(t, "one state too many", many(api.MaxStates+more))
		}
		wantMany(t, "many states", many(500))
		wantMany(t, "most states", many(api.MaxSymbols/2))
	}
	if a := wantAgain(t, round(api.MaxNames)); len(a.States) != 1+2*api.MaxNames {
		t.Errorf("P13.2: %d states", len(a.States))
	}
}

// TestKnownStatesBehindTheLast: when there are as many states as there may be,
// moves that lead to one of them are still found.
func TestKnownStatesBehindTheLast(t *testing.T) {
	g := rows(63, 63, 63, 63, 2)
	first := &g.Rules[0].Conj[0]
	first.Seq = append(first.Seq, ref(0))
	a := wantAgain(t, g)
	last := slices.IndexFunc(a.Moves, func(m api.Move) bool { return m.To == api.MaxStates-1 })
	if len(a.States) != api.MaxStates || last != len(a.Moves)-5 {
		t.Errorf("P13.2: %d states, move %d of %d leads to the last one", len(a.States), last, len(a.Moves))
	}
	g.Rules[4].Conj[0].Seq = append(g.Rules[4].Conj[0].Seq, one('~'))
	wantMany(t, "one state more ahead of it", g)
	// The same symbol at several places makes one state.
	for _, more := range []api.Rule{
		rule(0, row(one('~'))),
		rule(0, row(one('~')), rowNot(one('~'))),
	} {
		g = chain(api.MaxStates - 2)
		g.Rules = append(g.Rules, more)
		if a := wantAgain(t, g); len(a.States) != api.MaxStates {
			t.Errorf("P13.2: %d states", len(a.States))
		}
	}
}

// greatest is a grammar of as many places and moves as there can be: n rules
// lead back to all, and all other conjuncts have no symbols.
func greatest(n int) api.Grammar {
	g := named(1)
	for i := range api.MaxRules {
		r := rule(0, slices.Repeat([]api.Conjunct{row()}, api.MaxConj)...)
		if i < n {
			r.Conj[i%api.MaxConj] = rowNot(one(byte(i)), ref(0))
		}
		g.Rules = append(g.Rules, r)
	}
	return g
}

func TestGreatest(t *testing.T) {
	n := api.MaxStates/2 - 1
	g := greatest(n)
	a := wantAgain(t, g)
	if len(a.States) != 1+2*n || len(a.Moves) != n+n*(n+1) || len(a.States[1]) != api.MaxRules*api.MaxConj+1 {
		t.Errorf("P13.2: %d states, %d moves, %d places", len(a.States), len(a.Moves), len(a.States[1]))
	}
	all, _ := seqs.Places(g)
	wantClose(t, g, all, all...)
	wantMany(t, "one more that leads back", greatest(n+1))
	// A place more often than there are places.
	wantClose(t, g, slices.Repeat(some(at(0, 0, 1)), 1<<20), append(some(at(0, 0, 0), at(0, 0, 1)), heads(all)[1:]...)...)

	full := row(slices.Repeat([]api.Symbol{ref(0)}, api.MaxSeq)...)
	half := rule(0, slices.Repeat([]api.Conjunct{full}, api.MaxConj)...)
	g = named(1, half, half)
	if a := wantAgain(t, g); len(a.States) != api.MaxSeq+1 {
		t.Errorf("P13.2: %d states", len(a.States))
	}
	wantNone(t, "one symbol too many", named(1, half, half, rule(0, row(ref(0)))), api.ErrItemsForm)
}

// heads is the places 0 among some.
func heads(ps []api.Place) []api.Place {
	return slices.DeleteFunc(slices.Clone(ps), func(p api.Place) bool { return p.Pos > 0 })
}

// TestGivenStaysAsItWas: R4: what is handed in is not changed, its spare room
// neither, and the answers do not hang on it any more.
func TestGivenStaysAsItWas(t *testing.T) {
	spoiled := samples.Plain()
	spoiled.Start = 2
	for _, g := range []api.Grammar{samples.Plain(), spoiled} {
		given := samples.Roomy(g)
		room := some(at(2, 0, 1), at(0, 0, 2), at(0, 0, 2), at(77, 77, 77), at(77, 77, 77))
		places := slices.Clone(room)
		closed, e := items.Close(given, places[:3])
		a, _ := items.Build(given)
		if !samples.Same(given, samples.Roomy(g)) || !slices.Equal(places, room) {
			t.Errorf("R4: %v became %v, %v", g, given, places)
		}
		places[0], places[1] = at(1, 0, 0), at(1, 0, 0)
		given.Rules[2].Conj[0].Seq[0] = one('y')
		given.Rules[0].Conj[0].Seq = nil
		given.Rules[1].Conj = nil
		if e != api.OK {
			continue
		}
		if after := closeAgain(g, room[:3]); !slices.Equal(closed, after) {
			t.Errorf("R4: %v, not %v", closed, after)
		}
		if after := built(t, g); !sameAutomaton(a, after) {
			t.Errorf("R4: %v, not %v", a, after)
		}
	}
	wantClose(t, samples.Roomy(samples.Plain()), some(at(2, 0, 1)), at(2, 0, 1))
	wantPlain(t)
}

// TestAnswersAreApart: R4: whoever changes an answer, its spare room too,
// changes no other one, and no other list of it.
func TestAnswersAreApart(t *testing.T) {
	g := samples.Read(`start S; S = "a" S "c" | T; T = "b" T | ~ "ab";`)
	given := some(at(1, 0, 0), at(2, 0, 0), at(3, 0, 0))
	closed, _ := items.Close(g, given)
	spoil(closed)
	wantClose(t, g, some(at(1, 0, 0)), given...)
	if !slices.Equal(given, some(at(1, 0, 0), at(2, 0, 0), at(3, 0, 0))) {
		t.Errorf("R4: %v", given)
	}

	fresh := built(t, g)
	for i := range fresh.States {
		a := built(t, g)
		spoil(a.States[i])
		for k := range a.States {
			if k != i && !slices.Equal(a.States[k], fresh.States[k]) {
				t.Errorf("R4: state %d became %v with state %d", k, a.States[k], i)
			}
		}
		spoil(a.Moves)
		if !sameAutomaton(fresh, wantAgain(t, g)) {
			t.Errorf("R4: %v", fresh)
		}
	}
}

// spoil makes all of a list nothing, its spare room too.
func spoil[T any](list []T) {
	clear(list[:cap(list)])
}

// TestNothingIsKept: R5: answers hang on what is given alone; many times the
// same call answers the same.
func TestNothingIsKept(t *testing.T) {
	r := samples.Numbers(1313)
	for range 200 {
		g := r.Grammar(10)
		items.Build(g)
		items.Close(g, somePlaces(&r, g, 9))
		wantNone(t, "nothing", api.Grammar{}, api.ErrItemsForm)
		wantNoClose(t, "no place", samples.Plain(), at(9, 0, 0))
		wantPlain(t)
	}
	wantMany(t, "too many", chain(api.MaxStates))
	wantPlain(t)
	g := samples.Read(`start S; S = "a" S "c" & ~ T | T; T = 'a'..'c' T | S S | ~ "ab";`)
	a, places := built(t, g), somePlaces(&r, g, 5)
	closed, _ := items.Close(g, places)
	for range 100 {
		if again := built(t, g); !sameAutomaton(a, again) {
			t.Fatalf("R5: %v, then %v", a, again)
		}
		wantClose(t, g, places, closed...)
	}
}

func TestSeveralGoroutines(t *testing.T) {
	var group sync.WaitGroup
	for range 8 {
		group.Go(func() {
			for range 50 {
				wantPlain(t)
				wantNoClose(t, "no place", samples.Plain(), at(9, 0, 0))
				wantMany(t, "too many", fan(api.MaxStates))
			}
		})
	}
	group.Wait()
}

// TestGreatGrammars: R1: what is far too much is refused in a time that its
// size explains.
func TestGreatGrammars(t *testing.T) {
	much := slices.Repeat(some(at(0, 0, 0)), 1<<20)
	for _, s := range samples.Great() {
		wantNoClose(t, s.What, s.Grammar, much...)
		wantNone(t, s.What, s.Grammar, api.ErrItemsForm)
	}
	wantNoClose(t, "no place behind many", samples.Plain(), append(much, at(-1, 0, 0))...)
}

// TestAnyNumbers: R1: no numbers make a panic; what may be has its answers, all
// else is refused.
func TestAnyNumbers(t *testing.T) {
	for _, g := range samples.AnyNumbers() {
		if gram.May(g) {
			wantCloseAgain(t, g, at(2, 0, 0), at(0, 0, 0))
			wantAgain(t, g)
		} else {
			wantNoClose(t, "may not be", g, at(0, 0, 0))
			wantNone(t, "may not be", g, api.ErrItemsForm)
		}
	}
	ends := []int{math.MinInt, -257, -1, 0, 1, 2, 3, 255, 256, 1 << 32, math.MaxInt}
	all, _ := seqs.Places(samples.Plain())
	samples.EachChoice(3, len(ends), func(chosen []int) {
		p := at(ends[chosen[0]], ends[chosen[1]], ends[chosen[2]])
		if slices.Contains(all, p) {
			wantCloseAgain(t, samples.Plain(), p)
		} else {
			wantNoClose(t, "no place", samples.Plain(), p)
		}
	})
}
