package mean_test

import (
	"slices"
	"strings"
	"testing"

	"temple/api"
	"temple/mean"
	"temple/nulls"
	"temple/samples"
	"temple/seqs"
	"temple/strata"
)

// again is the chapter read once more over what a table answers: each sentence
// must hold of it. As a rank is above the ranks of what it leans on, nothing
// has a span but by a way that ends, so that the sets are the least ones.
type again struct {
	*mean.Table
	g api.Grammar
	w string
}

// symbol is what stands at a place, if it is not the end.
func (a again) symbol(p api.Place) (api.Symbol, bool) {
	seq := a.g.Rules[p.Rule].Conj[p.Conj].Seq
	if p.Pos == len(seq) {
		return api.Symbol{}, false
	}
	return seq[p.Pos], true
}

// rest is the rank of a rest, by the ranks of what it is made of; 0, if it has
// not the span.
func (a again) rest(p api.Place, i, j int) int {
	s, ok := a.symbol(p)
	if !ok {
		if i == j {
			return 1
		}
		return 0
	}
	next := api.Place{Rule: p.Rule, Conj: p.Conj, Pos: p.Pos + 1}
	if s.Name < 0 {
		if i < j && s.Lo <= int(a.w[i]) && int(a.w[i]) <= s.Hi && a.Rest(next, i+1, j) {
			return 1 + a.RestRank(next, i+1, j)
		}
		return 0
	}
	least := 0
	for k := i; k <= j; k++ {
		if a.Has(s.Name, i, k) && a.Rest(next, k, j) {
			least = lesser(least, 1+max(a.Rank(s.Name, i, k), a.RestRank(next, k, j)))
		}
	}
	return least
}

// lesser is the lesser one of two ranks, of which the first may be none.
func lesser(least, rank int) int {
	if least == 0 {
		return rank
	}
	return min(least, rank)
}

// rule is the rank that a rule gives a name; 0, if it does not hold.
func (a again) rule(n, i, j int) int {
	greatest := 0
	for c, x := range a.g.Rules[n].Conj {
		p := api.Place{Rule: n, Conj: c}
		if a.Rest(p, i, j) == x.Neg {
			return 0
		}
		if !x.Neg {
			greatest = max(greatest, a.RestRank(p, i, j))
		}
	}
	return 1 + greatest
}

// name is the rank of a name, by its rules; 0, if none holds.
func (a again) name(n, i, j int) int {
	least := 0
	for r, x := range a.g.Rules {
		if x.Head != n {
			continue
		}
		if rank := a.rule(r, i, j); rank > 0 {
			least = lesser(least, rank)
		}
	}
	return least
}

// eachSpan tells each span of a text.
func eachSpan(w string, tell func(i, j int)) {
	for i := range len(w) + 1 {
		for j := i; j <= len(w); j++ {
			tell(i, j)
		}
	}
}

// wantAgain: P11.1, P11.2: a table, held against the chapter read once more.
func wantAgain(t *testing.T, g api.Grammar, w string) *mean.Table {
	t.Helper()
	x := made(t, g, w)
	a := again{x, g, w}
	places, _ := seqs.Places(g)
	eachSpan(w, func(i, j int) {
		for n := range g.Names {
			rank := a.name(n, i, j)
			if x.Has(n, i, j) != (rank > 0) {
				t.Fatalf("P11.1: %s, %q: Has(%d, %d, %d) = %v", brief(g), w, n, i, j, x.Has(n, i, j))
			}
			if got := x.Rank(n, i, j); got != rank {
				t.Fatalf("P11.2: %s, %q: Rank(%d, %d, %d) = %d, not %d", brief(g), w, n, i, j, got, rank)
			}
		}
		for _, p := range places {
			rank := a.rest(p, i, j)
			if x.Rest(p, i, j) != (rank > 0) {
				t.Fatalf("P11.1: %s, %q: Rest(%v, %d, %d) = %v", brief(g), w, p, i, j, x.Rest(p, i, j))
			}
			if got := x.RestRank(p, i, j); got != rank {
				t.Fatalf("P11.2: %s, %q: RestRank(%v, %d, %d) = %d, not %d", brief(g), w, p, i, j, got, rank)
			}
		}
	})
	return x
}

// key is a name and a span.
type key struct {
	name, i, j int
}

// known is what names have, each 1 or 0.
type known map[key]int

// rest: has a row of symbols a span, by what names have?
func (k known) rest(w string, seq []api.Symbol, i, j int) bool {
	if len(seq) == 0 {
		return i == j
	}
	s := seq[0]
	if s.Name < 0 {
		return i < j && s.Lo <= int(w[i]) && int(w[i]) <= s.Hi && k.rest(w, seq[1:], i+1, j)
	}
	for m := i; m <= j; m++ {
		if k[key{s.Name, i, m}] == 1 && k.rest(w, seq[1:], m, j) {
			return true
		}
	}
	return false
}

// holds: does a rule hold of a span, by what names have?
func (k known) holds(w string, r api.Rule, i, j int) bool {
	return !slices.ContainsFunc(r.Conj, func(c api.Conjunct) bool { return k.rest(w, c.Seq, i, j) == c.Neg })
}

// closed: have the names of a level all that their rules give them?
func (k known) closed(g api.Grammar, w string, levels []int, level int) bool {
	closed := true
	for _, r := range g.Rules {
		if levels[r.Head] == level {
			eachSpan(w, func(i, j int) {
				closed = closed && (k[key{r.Head, i, j}] == 1 || !k.holds(w, r, i, j))
			})
		}
	}
	return closed
}

// plainly is the chapter's sentence as it stands: level by level, of all sets
// that are closed the one that the others have in them.
func plainly(g api.Grammar, w string, levels []int) known {
	has := known{}
	for level := range slices.Max(levels) + 1 {
		var keys []key
		eachSpan(w, func(i, j int) {
			for n := range g.Names {
				if levels[n] == level {
					keys = append(keys, key{n, i, j})
				}
			}
		})
		least := slices.Repeat([]int{1}, len(keys))
		samples.EachChoice(len(keys), 2, func(chosen []int) {
			for i, k := range keys {
				has[k] = chosen[i]
			}
			if has.closed(g, w, levels, level) {
				for i := range least {
					least[i] = min(least[i], chosen[i])
				}
			}
		})
		for i, k := range keys {
			has[k] = least[i]
		}
	}
	return has
}

// wantPlainly: P11.1: a table, held against all sets that there could be; false,
// if the grammar has a cycle.
func wantPlainly(t *testing.T, g api.Grammar, w string) bool {
	t.Helper()
	levels, _, e := strata.Strata(g)
	if e != api.OK {
		wantNone(t, "a cycle", g, w)
		return false
	}
	x, has := made(t, g, w), plainly(g, w, levels)
	eachSpan(w, func(i, j int) {
		for n := range g.Names {
			if got := x.Has(n, i, j); got != (has[key{n, i, j}] == 1) {
				t.Fatalf("P11.1: %s, %q: Has(%d, %d, %d) = %v", brief(g), w, n, i, j, got)
			}
		}
	})
	return true
}

// TestAllSmallGrammars: two names with rules of the conjuncts that they and a
// byte can make, and a text of one byte.
func TestAllSmallGrammars(t *testing.T) {
	rows := [][]api.Symbol{{}, {ref(0)}, {ref(1)}, {span('a', 'a')}, {ref(0), ref(1)}, {span('a', 'b'), ref(1)}}
	var alts [][]api.Conjunct
	for _, a := range rows {
		for _, neg := range []bool{false, true} {
			alts = append(alts, alt(api.Conjunct{Neg: neg, Seq: a}))
		}
	}
	told, cycles := 0, 0
	samples.EachChoice(3, len(alts), func(chosen []int) {
		a, b, c := alts[chosen[0]], alts[chosen[1]], alts[chosen[2]]
		for _, g := range []api.Grammar{
			named(2, rule(0, a...), rule(0, b...), rule(1, c...)),
			named(2, rule(0, a[0], b[0]), rule(1, c...)),
		} {
			if wantPlainly(t, g, "a") {
				wantAgain(t, g, "ab")
				told++
			} else {
				cycles++
			}
		}
	})
	if told < 1000 || cycles < 500 {
		t.Errorf("%d told, %d cycles", told, cycles)
	}
}

// TestSmallTexts: mixed grammars of two names and texts of two bytes.
func TestSmallTexts(t *testing.T) {
	r := samples.Numbers(11)
	for range 60 {
		wantPlainly(t, r.Leveled(2), r.Text(2))
	}
}

func TestMixedGrammars(t *testing.T) {
	r := samples.Numbers(111)
	either, high := 0, 0
	for range 2500 {
		g, w := r.Leveled(5), r.Text(7)
		x := wantAgain(t, g, w)
		has, not := 0, 0
		for n := range g.Names {
			if x.Has(n, 0, len(w)) {
				has++
			} else {
				not++
			}
			high = max(high, x.Rank(n, 0, len(w)))
		}
		if has > 0 && not > 0 {
			either++
		}
	}
	if either < 500 || high < 12 {
		t.Errorf("%d with either, ranks to %d", either, high)
	}
	for range 10 {
		wantAgain(t, r.Leveled(30), r.Text(api.MaxInput))
	}
}

// TestMixedCycles: of grammars with many negations those are refused in which
// layer 8 finds a cycle, and no others.
func TestMixedCycles(t *testing.T) {
	r := samples.Numbers(1111)
	told, cycles := 0, 0
	for range 2000 {
		g := r.Grammar(4)
		if _, _, e := strata.Strata(g); e != api.OK {
			wantNone(t, "a cycle", g, "ab")
			cycles++
		} else {
			wantAgain(t, g, "a\x80\xff")
			told++
		}
	}
	if told < 200 || cycles < 200 {
		t.Errorf("%d told, %d cycles", told, cycles)
	}
}

// TestEmptyTextAsNulls: P9.1: who has the empty text is the meaning of no bytes.
func TestEmptyTextAsNulls(t *testing.T) {
	r := samples.Numbers(99)
	for range 2000 {
		g := r.Leveled(10)
		has, _ := nulls.Nulls(g)
		empty, other := made(t, g, ""), made(t, g, "abc")
		for n := range g.Names {
			for i := range 4 {
				if empty.Has(n, 0, 0) != has[n] || other.Has(n, i, i) != has[n] {
					t.Fatalf("P11.1: %s: %d has the empty text: %v", brief(g), n, has[n])
				}
			}
		}
	}
}

// TestBytesAlone: what has a span hangs on the bytes of the span alone.
func TestBytesAlone(t *testing.T) {
	r := samples.Numbers(7)
	for range 200 {
		g, w := r.Leveled(4), r.Text(8)
		x := made(t, g, w)
		eachSpan(w, func(i, j int) {
			y := made(t, g, w[i:j])
			for n := range g.Names {
				if x.Has(n, i, j) != y.Has(n, 0, j-i) || x.Rank(n, i, j) != y.Rank(n, 0, j-i) {
					t.Fatalf("P11.1: %s: %q, and %q alone: %d", brief(g), w, w[i:j], n)
				}
			}
		})
	}
}

// TestGreatest: a grammar and a text that are as great as they can be have a
// table in a time that their sizes explain.
func TestGreatest(t *testing.T) {
	g, w := samples.Greatest(), strings.Repeat("abba", api.MaxInput/4)
	x := wantAgain(t, g, w)
	eachSpan(w, func(i, j int) {
		for n := range g.Names {
			if !x.Has(n, i, j) {
				t.Fatalf("P11.1: Has(%d, %d, %d) = false", n, i, j)
			}
		}
	})
}

// TestLongestRows: conjuncts as long as there can be.
func TestLongestRows(t *testing.T) {
	full := row(slices.Repeat([]api.Symbol{ref(0)}, api.MaxSeq)...)
	g := named(1, rule(0, full, row(span('a', 'b'))), rule(0, full), rule(0, row()), rule(0, row(span('b', 'z'))))
	// That it has "a" would lean on nothing but that it has "a".
	wantHas(t, g, "aabbabab", 0, like(`b*`))
	wantAgain(t, g, strings.Repeat("ab", api.MaxInput/2))
}
