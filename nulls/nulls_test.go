package nulls_test

import (
	"fmt"
	"slices"
	"sync"
	"testing"

	"temple/api"
	"temple/gram"
	"temple/nulls"
	"temple/samples"
	"temple/strata"
)

var (
	ref, span   = samples.Ref, samples.Span
	row, rowNot = samples.Row, samples.RowNot
	rule, named = samples.Rule, samples.Named
)

// Two names that the tests' grammars lean on: one that has the empty text, and
// one that has not.
const (
	full  = 1
	empty = 2
)

// asking is a grammar of a name with some rules, of one that has the empty
// text, and of one that has not.
func asking(rules ...[]api.Conjunct) api.Grammar {
	g := named(3)
	for _, conjuncts := range rules {
		g.Rules = append(g.Rules, rule(0, conjuncts...))
	}
	g.Rules = append(g.Rules, rule(full, row()), rule(empty, row(span('a', 'a'))))
	return g
}

// alt is the conjuncts of a rule.
func alt(conjuncts ...api.Conjunct) []api.Conjunct {
	return conjuncts
}

// brief tells the beginning of something that may be long.
func brief(x any) string {
	return fmt.Sprintf("%.300s", fmt.Sprint(x))
}

// want: P9.1: who of a grammar has the empty text.
func want(t *testing.T, g api.Grammar, has ...bool) {
	t.Helper()
	if got, e := nulls.Nulls(g); !slices.Equal(got, has) || e != api.OK {
		t.Errorf("P9.1: Nulls(%s) = %v, %d, not %v", brief(g), got, e, has)
	}
}

// wantFirst: P9.1: has the first name of asking the empty text?
func wantFirst(t *testing.T, has bool, rules ...[]api.Conjunct) {
	t.Helper()
	want(t, asking(rules...), has, true, false)
}

// wantNone: P9.1: a grammar is refused, with no answer beside it.
func wantNone(t *testing.T, what string, g api.Grammar) {
	t.Helper()
	if got, e := nulls.Nulls(g); got != nil || e != api.ErrNullsForm {
		t.Errorf("P9.1: %s: Nulls(%s) = %v, %d", what, brief(g), got, e)
	}
}

func TestWhatMayNotBe(t *testing.T) {
	for _, s := range samples.MayNotBe() {
		wantNone(t, s.What, s.Grammar)
	}
	want(t, samples.Plain(), true, true)
}

func TestCycles(t *testing.T) {
	wantNone(t, "not itself", named(1, rule(0, rowNot(ref(0)))))
	wantNone(t, "not itself, behind a byte", named(1, rule(0, rowNot(span('a', 'a'), ref(0)))))
	wantNone(t, "not itself, beside a rule that holds", named(1, rule(0, row()), rule(0, rowNot(ref(0)))))
	wantNone(t, "over another name", named(2, rule(0, row(ref(1))), rule(1, rowNot(ref(0)))))
	wantNone(t, "of names that nobody needs", named(3, rule(0, row()), rule(1, row(ref(2))), rule(2, rowNot(ref(1)))))
	wantNone(t, "a text", samples.Read(`start S; S = "" | T & ~ "b"; T = "c" & ~ "d" S "e";`))
	long := named(api.MaxNames)
	for i := range api.MaxNames {
		long.Rules = append(long.Rules, rule(i, row(ref((i+1)%api.MaxNames))))
	}
	want(t, long, make([]bool, api.MaxNames)...)
	long.Rules[api.MaxNames/2].Conj[0].Neg = true
	wantNone(t, "over all names", long)
	// A cycle without a negation, and a negation without a cycle, are none.
	want(t, named(2, rule(0, row(ref(1))), rule(1, row(ref(0)))), false, false)
	want(t, named(2, rule(0, rowNot(ref(1))), rule(1, row())), false, true)
}

func TestTexts(t *testing.T) {
	want(t, samples.Read(`start S; S = "";`), true)
	want(t, samples.Read(`start S; S = "a" S | "";`), true)
	want(t, samples.Read(`start S; S = S "" | "b";`), false)
	want(t, samples.Read(`start S; S = A & ~ B | "x"; A = "a" A | ""; B = ~ A "b" & S2; S2 = "";`), false, true, true, true)
	want(t, samples.Read(`start S; S = A B & ~ C; A = "a" A | ""; B = "b" B | A; C = "c" | A "c" B;`), true, true, true, false)
}

func TestNoSymbols(t *testing.T) {
	wantFirst(t, true, alt(row()))
	wantFirst(t, false, alt(rowNot()))
	wantFirst(t, true, alt(row(), row()))
	wantFirst(t, false, alt(row(), rowNot()))
}

// TestBytes: what has a byte in it is not the empty text, wherever it stands.
func TestBytes(t *testing.T) {
	for _, s := range []api.Symbol{span('a', 'a'), span(0, 0), span(255, 255), span(0, 255), span('0', '9')} {
		wantFirst(t, false, alt(row(s)))
		wantFirst(t, false, alt(row(s, ref(full))))
		wantFirst(t, false, alt(row(ref(full), s)))
		wantFirst(t, false, alt(row(ref(full), s, ref(full))))
		wantFirst(t, false, alt(row(s, s)))
		wantFirst(t, true, alt(rowNot(s)))
		wantFirst(t, true, alt(rowNot(ref(full), s)))
	}
}

func TestRowsOfNames(t *testing.T) {
	wantFirst(t, true, alt(row(ref(full))))
	wantFirst(t, true, alt(row(ref(full), ref(full), ref(full))))
	wantFirst(t, false, alt(row(ref(empty))))
	wantFirst(t, false, alt(row(ref(empty), ref(full), ref(full))))
	wantFirst(t, false, alt(row(ref(full), ref(empty), ref(full))))
	wantFirst(t, false, alt(row(ref(full), ref(full), ref(empty))))
	// One that has it not among as many as there can be.
	long := slices.Repeat([]api.Symbol{ref(full)}, api.MaxSeq)
	wantFirst(t, true, alt(row(long...)))
	for i := range long {
		long[i] = ref(empty)
		wantFirst(t, false, alt(row(long...)))
		wantFirst(t, true, alt(rowNot(long...)))
		long[i] = ref(full)
	}
}

// TestSeveralConjuncts: each of them must say so.
func TestSeveralConjuncts(t *testing.T) {
	wantFirst(t, true, alt(row(ref(full)), row()))
	wantFirst(t, false, alt(row(ref(full)), row(ref(empty))))
	wantFirst(t, false, alt(row(ref(empty)), row(ref(full))))
	wantFirst(t, true, alt(row(ref(full)), rowNot(ref(empty))))
	wantFirst(t, false, alt(row(ref(full)), rowNot(ref(full))))
	wantFirst(t, false, alt(rowNot(ref(full)), row(ref(full))))
	wantFirst(t, true, alt(rowNot(ref(empty)), rowNot(span('a', 'a'))))
	wantFirst(t, false, alt(rowNot(ref(empty)), rowNot(ref(full))))
	all := slices.Repeat([]api.Conjunct{row(ref(full)), rowNot(ref(empty))}, api.MaxConj/2)
	wantFirst(t, true, all)
	for i := range all {
		all[i].Neg = !all[i].Neg
		wantFirst(t, false, all)
		all[i].Neg = !all[i].Neg
	}
}

// TestSeveralRules: one of them is enough.
func TestSeveralRules(t *testing.T) {
	wantFirst(t, true, alt(row()), alt(row(ref(empty))))
	wantFirst(t, true, alt(row(ref(empty))), alt(row()))
	wantFirst(t, true, alt(row(ref(empty))), alt(rowNot(ref(full))), alt(row(ref(full))))
	wantFirst(t, false, alt(row(ref(empty))), alt(rowNot(ref(full))), alt(row(span('a', 'a'))))
	// Two halves of what a rule must say are no rule that says it.
	wantFirst(t, false, alt(row(ref(full)), row(ref(empty))), alt(row(ref(empty)), row(ref(full))))
	many := slices.Repeat([][]api.Conjunct{alt(row(ref(empty)))}, api.MaxRules-2)
	wantFirst(t, false, many...)
	for _, i := range []int{0, 1, len(many) / 2, len(many) - 1} {
		many[i] = alt(rowNot(ref(empty)))
		wantFirst(t, true, many...)
		many[i] = alt(row(ref(empty)))
	}
}

func TestNegation(t *testing.T) {
	wantFirst(t, false, alt(rowNot(ref(full))))
	wantFirst(t, true, alt(rowNot(ref(empty))))
	wantFirst(t, false, alt(rowNot(ref(full), ref(full))))
	wantFirst(t, true, alt(rowNot(ref(full), ref(empty))))
	wantFirst(t, true, alt(rowNot(ref(empty), ref(full))))
}

// TestNegationsInARow: each name is what the one below it is not.
func TestNegationsInARow(t *testing.T) {
	for _, begun := range []bool{false, true} {
		down, up := named(api.MaxNames), named(api.MaxNames)
		var wantDown, wantUp []bool
		for i := range api.MaxNames {
			// An even number of negations away from the last, or first, name.
			wantDown = append(wantDown, (i%2 == (api.MaxNames-1)%2) == begun)
			wantUp = append(wantUp, (i%2 == 0) == begun)
			down.Rules = append(down.Rules, rule(i, rowNot(ref(min(i+1, api.MaxNames-1)))))
			up.Rules = append(up.Rules, rule(i, rowNot(ref(max(i-1, 0)))))
		}
		ground := rowNot()
		ground.Neg = !begun
		down.Rules[api.MaxNames-1].Conj[0], up.Rules[0].Conj[0] = ground, ground
		want(t, down, wantDown...)
		want(t, up, wantUp...)
	}
}

// TestOverANegation: a name that needs a name that needs a negation.
func TestOverANegation(t *testing.T) {
	over := func(ground api.Conjunct) api.Grammar {
		return named(3, rule(0, row(ref(1))), rule(1, rowNot(ref(2))), rule(2, ground))
	}
	want(t, over(row()), false, false, true)
	want(t, over(row(span('a', 'a'))), true, true, false)
	twice := func(ground api.Conjunct) api.Grammar {
		return named(4, rule(0, rowNot(ref(1))), rule(1, row(ref(2))), rule(2, rowNot(ref(3))), rule(3, ground))
	}
	want(t, twice(row()), true, false, false, true)
	want(t, twice(rowNot()), false, true, true, false)
}

// TestSettledAheadOfNegation: what a name is not is asked only when all of its
// level is known, though its last rule, and a long row of names, must be gone
// through for that.
func TestSettledAheadOfNegation(t *testing.T) {
	g := named(api.MaxNames, rule(0, rowNot(ref(1))))
	has := []bool{false}
	for i := 1; i < api.MaxNames; i++ {
		g.Rules = append(g.Rules, rule(i, row(ref(min(i+1, api.MaxNames-1)))))
		has = append(has, true)
	}
	g.Rules = append(g.Rules, rule(api.MaxNames-1, row()))
	want(t, g, has...)
	has = slices.Repeat([]bool{false}, api.MaxNames)
	has[0] = true
	g.Rules = g.Rules[:len(g.Rules)-1]
	want(t, g, has...)
}

// TestRings: names that need one another have the empty text, if a rule begins
// it.
func TestRings(t *testing.T) {
	for names := 1; names <= api.MaxNames; names++ {
		var rules []api.Rule
		for i := range names {
			rules = append(rules, rule(i, row(ref((i+1)%names))))
		}
		want(t, named(names, rules...), make([]bool, names)...)
		for _, begin := range []int{0, names / 2, names - 1} {
			begun := slices.Insert(slices.Clone(rules), begin, rule(begin, row()))
			want(t, named(names, begun...), slices.Repeat([]bool{true}, names)...)
			begun = slices.Insert(slices.Clone(rules), begin+1, rule(begin, row(span('a', 'a'))))
			want(t, named(names, begun...), make([]bool, names)...)
		}
	}
	// A ring that is left by a byte, or that is entered by two at one time.
	want(t, named(2, rule(0, row(ref(1), span('a', 'a'))), rule(0, row()), rule(1, row(ref(0)))), true, true)
	want(t, named(2, rule(0, row(ref(1), span('a', 'a'))), rule(1, row(ref(0))), rule(1, row())), false, true)
	want(t, named(3, rule(0, row(ref(1), ref(2))), rule(1, row(ref(0))), rule(1, row()), rule(2, row(ref(0)))), false, true, false)
	want(t, named(3, rule(0, row(ref(1), ref(2))), rule(1, row(ref(0))), rule(1, row()), rule(2, row(ref(1)))), true, true, true)
}

// TestRingAboveANegation: what begins a ring is what a name below it is not.
func TestRingAboveANegation(t *testing.T) {
	ring := func(ground api.Conjunct) api.Grammar {
		return named(3, rule(0, row(ref(1))), rule(1, row(ref(0))), rule(1, rowNot(ref(2))), rule(2, ground))
	}
	want(t, ring(row()), false, false, true)
	want(t, ring(row(span('a', 'z'))), true, true, false)
	want(t, ring(row(ref(2))), true, true, false)
}

// TestItself: a name that only leads to itself has not the empty text.
func TestItself(t *testing.T) {
	wantFirst(t, false, alt(row(ref(0))))
	wantFirst(t, false, alt(row(ref(0), ref(0))))
	wantFirst(t, false, alt(row(ref(0)), row()))
	wantFirst(t, false, alt(row(ref(full), ref(0))))
	wantFirst(t, false, alt(row(ref(0))), alt(row(ref(0), ref(full))))
	wantFirst(t, true, alt(row(ref(0))), alt(row(ref(full))))
	wantFirst(t, true, alt(row(ref(full))), alt(row(ref(0))))
	wantFirst(t, false, alt(row(ref(0))), alt(row(ref(empty))))
	want(t, named(2, rule(0, rowNot(ref(1))), rule(1, row(ref(1)))), true, false)
}

// TestWhateverTheRow: the same names and rules, numbered and written in any
// row, say the same.
func TestWhateverTheRow(t *testing.T) {
	rules := []api.Rule{
		rule(0, row(ref(1), ref(2)), rowNot(ref(3))),
		rule(1, row(ref(2))),
		rule(2, row(ref(1), span('a', 'a'))),
		rule(2, row(ref(4), ref(4))),
		rule(3, row(ref(3)), row()),
		rule(4, row(ref(3))),
		rule(4, rowNot(ref(3))),
	}
	has := []bool{true, true, true, false, true}
	samples.EachOrder(len(has), func(order []int) {
		wantHas := make([]bool, len(has))
		for i := range has {
			wantHas[order[i]] = has[i]
		}
		for _, turned := range [][]api.Rule{rules, reversed(rules)} {
			want(t, named(len(has), renamed(turned, order)...), wantHas...)
		}
	})
	parts := []api.Conjunct{row(ref(full), ref(full)), rowNot(ref(empty)), row(), row(ref(0))}
	samples.EachOrder(len(parts), func(order []int) {
		var each [][]api.Conjunct
		var inOne []api.Conjunct
		for _, i := range order {
			each, inOne = append(each, alt(parts[i])), append(inOne, parts[i])
		}
		wantFirst(t, true, each...)
		wantFirst(t, false, inOne)
	})
}

// reversed is rules, and the conjuncts and symbols in them, the other way
// round.
func reversed(rules []api.Rule) []api.Rule {
	var out []api.Rule
	for _, r := range slices.Backward(rules) {
		x := rule(r.Head)
		for _, c := range slices.Backward(r.Conj) {
			seq := slices.Clone(c.Seq)
			slices.Reverse(seq)
			x.Conj = append(x.Conj, api.Conjunct{Neg: c.Neg, Seq: seq})
		}
		out = append(out, x)
	}
	return out
}

// renamed is rules of names with other numbers, by their heads.
func renamed(rules []api.Rule, order []int) []api.Rule {
	var out []api.Rule
	for _, r := range rules {
		x := rule(order[r.Head])
		for _, c := range r.Conj {
			seq := slices.Clone(c.Seq)
			for i, s := range seq {
				if s.Name >= 0 {
					seq[i] = ref(order[s.Name])
				}
			}
			x.Conj = append(x.Conj, api.Conjunct{Neg: c.Neg, Seq: seq})
		}
		out = append(out, x)
	}
	slices.SortStableFunc(out, func(a, b api.Rule) int { return a.Head - b.Head })
	return out
}

// TestStartSaysNothing: neither the start nor what names are called counts.
func TestStartSaysNothing(t *testing.T) {
	for start := range 3 {
		g := asking(alt(row(ref(empty))))
		g.Start, g.Names = start, []string{"z", "y", "x"}
		want(t, g, false, true, false)
	}
}

// known is what names have; a row of symbols has the empty text by it as
// chapter 11 says of a rest.
type known []bool

func (k known) rest(seq []api.Symbol) bool {
	switch {
	case len(seq) == 0:
		return true
	case seq[0].Name < 0:
		return false
	}
	return k[seq[0].Name] && k.rest(seq[1:])
}

func (k known) holds(r api.Rule) bool {
	return !slices.ContainsFunc(r.Conj, func(c api.Conjunct) bool { return k.rest(c.Seq) == c.Neg })
}

// closed: has each name of a level what one of its rules holds of?
func (k known) closed(g api.Grammar, levels []int, level int) bool {
	return !slices.ContainsFunc(g.Rules, func(r api.Rule) bool {
		return levels[r.Head] == level && !k[r.Head] && k.holds(r)
	})
}

// plainly is chapter 11's sentence once more: level by level, of all sets that
// are closed the one that the others have in them.
func plainly(g api.Grammar, levels []int) []bool {
	has := make(known, len(g.Names))
	for level := range len(g.Names) {
		least := slices.Repeat([]bool{true}, len(g.Names))
		samples.EachChoice(len(g.Names), 2, func(chosen []int) {
			tried := slices.Clone(has)
			for i, c := range chosen {
				if levels[i] == level {
					tried[i] = c == 1
				}
			}
			if !tried.closed(g, levels, level) {
				return
			}
			for i := range least {
				least[i] = least[i] && tried[i]
			}
		})
		for i := range has {
			if levels[i] == level {
				has[i] = least[i]
			}
		}
	}
	return has
}

// inRounds is the same for many names: of all names of a level at one time,
// by what the round before has found, as many rounds as there are names.
func inRounds(g api.Grammar, levels []int) []bool {
	has := make(known, len(g.Names))
	for level := range len(g.Names) {
		for range g.Names {
			next := slices.Clone(has)
			for _, r := range slices.Backward(g.Rules) {
				if levels[r.Head] == level && has.holds(r) {
					next[r.Head] = true
				}
			}
			has = next
		}
	}
	return has
}

// wantAs holds a grammar against the chapter read once more; false, if it has
// a cycle.
func wantAs(t *testing.T, g api.Grammar, read func(g api.Grammar, levels []int) []bool) bool {
	t.Helper()
	levels, _, e := strata.Strata(g)
	if e != api.OK {
		wantNone(t, "a cycle", g)
		return false
	}
	want(t, g, read(g, levels)...)
	return true
}

// TestAllSmallGrammars: two names, each with up to two rules of the conjuncts
// that two names and a byte can make.
func TestAllSmallGrammars(t *testing.T) {
	rows := [][]api.Symbol{{}, {ref(0)}, {ref(1)}, {span('a', 'a')}, {ref(0), ref(1)}}
	var alts [][]api.Conjunct
	for _, a := range rows {
		for _, neg := range []bool{false, true} {
			alts = append(alts, alt(api.Conjunct{Neg: neg, Seq: a}), alt(api.Conjunct{Neg: neg, Seq: a}, row(ref(1))))
		}
	}
	told, cycles := 0, 0
	samples.EachChoice(3, len(alts), func(chosen []int) {
		a, b, c := alts[chosen[0]], alts[chosen[1]], alts[chosen[2]]
		for _, g := range []api.Grammar{
			named(2, rule(0, a...), rule(0, b...), rule(1, c...)),
			named(2, rule(0, a...), rule(1, b...), rule(1, c...)),
		} {
			if wantAs(t, g, plainly) {
				told++
			} else {
				cycles++
			}
		}
	})
	if told < 1000 || cycles < 1000 {
		t.Errorf("%d told, %d cycles", told, cycles)
	}
}

func TestMixedGrammars(t *testing.T) {
	r := samples.Numbers(9)
	told, both := 0, 0
	for range 12000 {
		g := r.Grammar(6)
		if !wantAs(t, g, plainly) {
			continue
		}
		wantAs(t, g, inRounds)
		told++
		if got, _ := nulls.Nulls(g); slices.Contains(got, true) && slices.Contains(got, false) {
			both++
		}
	}
	if told < 500 || both < 100 {
		t.Errorf("%d told, %d with either", told, both)
	}
}

// layered is a grammar of many names and few negations, which lead down only,
// so that there are many levels.
func layered(r *samples.Numbers) api.Grammar {
	g := named(2 + r.Next(api.MaxNames-1))
	for head := range g.Names {
		for range 1 + r.Next(3) {
			x := rule(head)
			for range 1 + r.Next(2) {
				c := api.Conjunct{Neg: head > 0 && r.Next(4) == 0}
				for range r.Next(3) {
					if c.Neg {
						c.Seq = append(c.Seq, ref(r.Next(head)))
					} else if r.Next(8) == 0 {
						c.Seq = append(c.Seq, span('a', 'z'))
					} else {
						c.Seq = append(c.Seq, ref(r.Next(min(head+2, len(g.Names)))))
					}
				}
				x.Conj = append(x.Conj, c)
			}
			g.Rules = append(g.Rules, x)
		}
	}
	return g
}

func TestManyLevels(t *testing.T) {
	r := samples.Numbers(99)
	told, high := 0, 0
	for range 1500 {
		g := layered(&r)
		if wantAs(t, g, inRounds) {
			levels, _, _ := strata.Strata(g)
			told, high = told+1, max(high, slices.Max(levels))
		}
	}
	if told < 200 || high < 4 {
		t.Errorf("%d told, levels to %d", told, high)
	}
}

// TestGreatest: as many names, rules and symbols as there can be, where each
// round finds one name.
func TestGreatest(t *testing.T) {
	const each, long = api.MaxRules / api.MaxNames, api.MaxSymbols / api.MaxRules
	g := named(api.MaxNames)
	for i := range api.MaxNames {
		for range each {
			g.Rules = append(g.Rules, rule(i, row(slices.Repeat([]api.Symbol{ref((i + 1) % api.MaxNames)}, long)...)))
		}
	}
	want(t, g, make([]bool, api.MaxNames)...)
	g.Rules[len(g.Rules)-1].Conj[0].Seq = nil
	want(t, g, slices.Repeat([]bool{true}, api.MaxNames)...)
}

// TestGrammarStaysAsItWas: R4: what is handed in is not changed, its spare
// room neither, and what was answered does not hang on it any more.
func TestGrammarStaysAsItWas(t *testing.T) {
	cyclic, spoiled := samples.Plain(), samples.Plain()
	cyclic.Rules[2].Conj[0].Seq[0] = ref(0)
	spoiled.Start = 2
	for _, g := range []api.Grammar{samples.Plain(), asking(alt(rowNot(ref(full), ref(empty)))), cyclic, spoiled} {
		given := samples.Roomy(g)
		got, e := nulls.Nulls(given)
		if !samples.Same(given, samples.Roomy(g)) {
			t.Errorf("R4: Nulls changed %v into %v", g, given)
		}
		kept := slices.Clone(got)
		given.Names[0], given.Rules[0].Head = "other", 1
		given.Rules[0].Conj[0].Neg = !given.Rules[0].Conj[0].Neg
		given.Rules[0].Conj[0].Seq[0] = ref(0)
		again, e2 := nulls.Nulls(g)
		if !slices.Equal(got, kept) || !slices.Equal(got, again) || e != e2 {
			t.Errorf("R4: %v, %d, not %v, %v, %d", got, e, kept, again, e2)
		}
	}
}

// TestAnswersAreApart: R4: whoever changes an answer, its spare room too,
// changes no other one.
func TestAnswersAreApart(t *testing.T) {
	g := asking(alt(rowNot(ref(empty))))
	got, _ := nulls.Nulls(g)
	got2, _ := nulls.Nulls(g)
	for i := range got[:cap(got)] {
		got[:cap(got)][i] = i != 0 && i != 1
	}
	if !slices.Equal(got2, []bool{true, true, false}) {
		t.Errorf("R4: %v", got2)
	}
	want(t, g, true, true, false)
}

// TestNothingIsKept: R5: what is answered hangs on the grammar alone; many
// times the same call answers the same.
func TestNothingIsKept(t *testing.T) {
	r := samples.Numbers(999)
	for range 200 {
		nulls.Nulls(r.Grammar(api.MaxNames))
		wantFirst(t, true, alt(rowNot(ref(empty))))
		wantNone(t, "nothing", api.Grammar{})
		wantFirst(t, false, alt(rowNot(ref(full))))
		wantNone(t, "not itself", named(1, rule(0, rowNot(ref(0)))))
	}
}

func TestSeveralGoroutines(t *testing.T) {
	g, cyclic := asking(alt(rowNot(ref(empty)))), named(1, rule(0, rowNot(ref(0))))
	var group sync.WaitGroup
	for range 8 {
		group.Go(func() {
			for range 100 {
				want(t, g, true, true, false)
				wantNone(t, "not itself", cyclic)
			}
		})
	}
	group.Wait()
}

// TestGreatGrammars: R1: what is far too much is refused in a time that its
// size explains.
func TestGreatGrammars(t *testing.T) {
	for _, s := range samples.Great() {
		wantNone(t, s.What, s.Grammar)
	}
}

// TestAnyNumbers: R1: no numbers make a panic; what may be and has no cycle is
// told of, all else is refused.
func TestAnyNumbers(t *testing.T) {
	for _, g := range samples.AnyNumbers() {
		if gram.May(g) {
			wantAs(t, g, plainly)
		} else {
			wantNone(t, "may not be", g)
		}
	}
}
