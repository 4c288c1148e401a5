package bin_test

import (
	"fmt"
	"slices"
	"strings"
	"sync"
	"testing"

	"temple/api"
	"temple/bin"
	"temple/gram"
	"temple/mean"
	"temple/samples"
	"temple/strata"
)

var (
	ref, span   = samples.Ref, samples.Span
	row, rowNot = samples.Row, samples.RowNot
	rule, named = samples.Rule, samples.Named
)

// one is the symbol of one byte.
func one(c byte) api.Symbol {
	return span(int(c), int(c))
}

// many is a row of so many symbols, names and ranges.
func many(n int) []api.Symbol {
	var out []api.Symbol
	for i := range n {
		if i%3 == 1 {
			out = append(out, ref(0))
		} else {
			out = append(out, span(i, 100+i))
		}
	}
	return out
}

// brief tells the beginning of something that may be long.
func brief(x any) string {
	return fmt.Sprintf("%.400s", fmt.Sprint(x))
}

// same: are two grammars the same, whatever room their lists have?
func same(a, b api.Grammar) bool {
	return a.Start == b.Start && slices.Equal(a.Names, b.Names) && slices.EqualFunc(a.Rules, b.Rules, sameRule)
}

func sameRule(a, b api.Rule) bool {
	return a.Head == b.Head && slices.EqualFunc(a.Conj, b.Conj, func(c, d api.Conjunct) bool {
		return c.Neg == d.Neg && slices.Equal(c.Seq, d.Seq)
	})
}

// want: P14.1: what a grammar becomes.
func want(t *testing.T, g, made api.Grammar) {
	t.Helper()
	if got, e := bin.Bin(g); !same(got, made) || e != api.OK {
		t.Errorf("P14.1: Bin(%s) = %s, %d, not %s", brief(g), brief(got), e, brief(made))
	}
}

// wantRead: P14.1: what the grammar of a text becomes.
func wantRead(t *testing.T, text, made string) {
	t.Helper()
	want(t, samples.Read(text), samples.Read(made))
}

// wantNone: P14.1: an error, and nothing beside it.
func wantNone(t *testing.T, what string, g api.Grammar, e api.Errno) {
	t.Helper()
	if got, f := bin.Bin(g); got.Start != 0 || got.Names != nil || got.Rules != nil || f != e {
		t.Errorf("P14.1: %s: Bin(%s) = %s, %d, not %d", what, brief(g), brief(got), f, e)
	}
}

func wantMany(t *testing.T, what string, g api.Grammar) {
	t.Helper()
	wantNone(t, what, g, api.ErrBinMany)
}

// wantPlain: what samples.Plain becomes.
func wantPlain(t *testing.T) {
	t.Helper()
	made := samples.Plain()
	made.Names = append(made.Names, "_0")
	made.Rules[0].Conj[0] = row(ref(1), ref(2))
	made.Rules = append(made.Rules, rule(2, row(span('a', 'z'), ref(0))))
	want(t, samples.Plain(), made)
}

func TestWhatMayNotBe(t *testing.T) {
	for _, s := range samples.MayNotBe() {
		wantNone(t, s.What, s.Grammar, api.ErrBinForm)
	}
	wantPlain(t)
	// What may not be is told ahead of what is too many.
	g := full(1, api.MaxNames)
	g.Start = -1
	wantNone(t, "a start below", g, api.ErrBinForm)
}

// full is a grammar of so many names whose last conjuncts make so many new ones.
func full(names, news int) api.Grammar {
	g := named(names)
	for i := range names {
		g.Rules = append(g.Rules, rule(i, row(ref(i))))
	}
	last := &g.Rules[names-1]
	for news > 0 {
		length := min(news+2, api.MaxSeq)
		last.Conj = append(last.Conj, row(many(length)...))
		news -= length - 2
	}
	return g
}

// TestMostNames: MaxNames names are an answer, one more is none.
func TestMostNames(t *testing.T) {
	for names := 1; names <= api.MaxNames; names++ {
		for news := range 70 {
			g := full(names, news)
			if names+news > api.MaxNames {
				wantMany(t, "too many names", g)
				continue
			}
			if got, _ := bin.Bin(g); len(got.Names) != names+news {
				t.Errorf("P14.1: %d names and %d new ones are %d", names, news, len(got.Names))
			}
			want(t, g, binAgain(g))
		}
	}
}

// crowd is a grammar of one name, with so many rules, the last of which has a
// conjunct that makes so many new ones.
func crowd(rules, news int) api.Grammar {
	g := named(1)
	for range rules - 1 {
		g.Rules = append(g.Rules, rule(0, row()))
	}
	g.Rules = append(g.Rules, rule(0, rowNot(many(2+news)...)))
	return g
}

// TestMostRules: MaxRules rules are an answer, one more is none, though there
// may be more names.
func TestMostRules(t *testing.T) {
	for news := range 60 {
		want(t, crowd(api.MaxRules-news, news), binAgain(crowd(api.MaxRules-news, news)))
		for more := 1; more <= news; more++ {
			wantMany(t, "too many rules", crowd(api.MaxRules-news+more, news))
		}
	}
}

// load is a grammar of one name with so many symbols, all in conjuncts of two
// and some of three, each of which makes one symbol more.
func load(symbols, threes int) api.Grammar {
	g := named(1)
	var conj []api.Conjunct
	for i := 0; symbols > 0; i++ {
		length := min(2, symbols)
		if i < threes {
			length = 3
		}
		conj = append(conj, row(many(length)...))
		symbols -= length
	}
	for c := range slices.Chunk(conj, api.MaxConj) {
		g.Rules = append(g.Rules, rule(0, c...))
	}
	return g
}

// TestMostSymbols: MaxSymbols symbols are an answer, one more is none, though
// there may be more names and rules.
func TestMostSymbols(t *testing.T) {
	for threes := range 60 {
		want(t, load(api.MaxSymbols-threes, threes), binAgain(load(api.MaxSymbols-threes, threes)))
		for more := 1; more <= threes; more++ {
			wantMany(t, "too many symbols", load(api.MaxSymbols-threes+more, threes))
		}
	}
	// A long conjunct makes a symbol more for each of its new names.
	g := load(api.MaxSymbols-100, 0)
	g.Rules[0].Conj[0] = row(many(52)...)
	want(t, g, binAgain(g))
	g.Rules[0].Conj[0] = row(many(53)...)
	wantMany(t, "too many symbols", g)
	g.Rules[0].Conj[1] = row()
	want(t, g, binAgain(g))
}

// TestGreatest: the greatest grammars have many rests, and so no answer, in a
// time that their size explains.
func TestGreatest(t *testing.T) {
	long := rule(0, slices.Repeat([]api.Conjunct{row(many(api.MaxSeq)...)}, api.MaxConj)...)
	for range 100 {
		wantMany(t, "only long conjuncts", named(1, long, long))
	}
	wantMany(t, "two long ones", named(1, rule(0, row(many(api.MaxSeq)...), rowNot(many(api.MaxSeq)...))))
	g := named(1, rule(0, row(many(api.MaxSeq)...)))
	if got, e := bin.Bin(g); len(got.Names) != api.MaxSeq-1 || len(got.Rules) != api.MaxSeq-1 || e != api.OK {
		t.Errorf("P14.1: %d names, %d", len(got.Names), e)
	}
	wantAgain(t, g)
	wantNone(t, "one symbol too many", named(1, rule(0, row(many(api.MaxSeq+1)...))), api.ErrBinForm)
}

// TestCycles: a grammar in which layer 8 finds a cycle may be, and has an
// answer, in which it finds one, too.
func TestCycles(t *testing.T) {
	for text, made := range map[string]string{
		`start S; S = ~ S;`:                                `start S; S = ~ S;`,
		`start S; S = ~ "a" "b" S;`:                        `start S; S = ~ "a" _0; _0 = "b" S;`,
		`start S; S = "a" "b" T; T = "" & ~ S "c" S "d";`:  `start S; S = "a" _0; T = "" & ~ S _1; _0 = "b" T; _1 = "c" _2; _2 = S "d";`,
		`start T; S = T T T | ""; T = ~ S S S S S & ~ "";`: `start T; S = T _0 | ""; T = ~ S _1 & ~ ""; _0 = T T; _1 = S _2; _2 = S _3; _3 = S S;`,
	} {
		wantRead(t, text, made)
		for _, read := range []string{text, made} {
			if _, _, e := strata.Strata(samples.Read(read)); e != api.ErrStrataCycle {
				t.Errorf("%s has no cycle: %d", read, e)
			}
		}
		wantMeaning(t, samples.Read(text), "abc")
	}
	long := named(32)
	for i := range long.Names {
		long.Rules = append(long.Rules, rule(i, rowNot(ref(i), one('a'), ref((i+1)%32))))
	}
	want(t, long, binAgain(long))
}

// TestShortConjuncts: none, one and two symbols stay as they are.
func TestShortConjuncts(t *testing.T) {
	rows := [][]api.Symbol{
		nil, {}, {one('a')}, {ref(0)}, {ref(1)}, {span(0, 255)},
		{one('a'), one('b')}, {ref(0), ref(1)}, {one('a'), ref(0)}, {ref(1), span(0, 0)}, {span(255, 255), span(0, 255)},
	}
	for _, first := range rows {
		for _, second := range rows {
			stays := func(g api.Grammar) { want(t, g, g) }
			stays(named(2, rule(0, row(first...)), rule(1, rowNot(second...))))
			stays(named(2, rule(0, rowNot(first...), row(second...)), rule(1, row())))
			stays(named(2, rule(0, row(first...), rowNot(first...), row(second...)), rule(1, row(second...)), rule(1, row())))
		}
	}
	wantRead(t, `start S; S = "" | "a" | "ab" & ~ S T; T = T;`, `start S; S = "" | "a" | "ab" & ~ S T; T = T;`)
}

// TestLongConjuncts: of three and of more symbols all but the first one are a
// new name, and so on.
func TestLongConjuncts(t *testing.T) {
	wantRead(t, `start S; S = "abc";`, `start S; S = "a" _0; _0 = "bc";`)
	wantRead(t, `start S; S = "abcd";`, `start S; S = "a" _0; _0 = "b" _1; _1 = "cd";`)
	wantRead(t, `start S; S = "abcde";`, `start S; S = "a" _0; _0 = "b" _1; _1 = "c" _2; _2 = "de";`)
	for length := range api.MaxSeq + 1 {
		g := named(1, rule(0, row(many(length)...)))
		b, e := bin.Bin(g)
		if news := max(0, length-2); len(b.Names) != 1+news || len(b.Rules) != 1+news || e != api.OK {
			t.Errorf("P14.1: %d symbols make %d names, %d rules, %d", length, len(b.Names), len(b.Rules), e)
		}
		// The first symbols, one by one, are the row.
		var seq []api.Symbol
		for i, r := range b.Rules {
			if r.Head != i || len(r.Conj) != 1 || r.Conj[0].Neg {
				t.Fatalf("P14.1: %v", r)
			}
			seq = append(seq, r.Conj[0].Seq...)
			if i < len(b.Rules)-1 {
				if last := seq[len(seq)-1]; last != ref(i+1) || len(r.Conj[0].Seq) != 2 {
					t.Fatalf("P14.1: %v", r)
				}
				seq = seq[:len(seq)-1]
			}
		}
		if !slices.Equal(seq, many(length)) {
			t.Errorf("P14.1: %v is cut into %v", many(length), seq)
		}
	}
}

// TestSymbolsStay: names and ranges, each where it was.
func TestSymbolsStay(t *testing.T) {
	g := named(2, rule(0, row(span(0, 255), ref(1), span('a', 'z'), ref(0), ref(1))), rule(1, row(ref(0), ref(0), one(0))))
	made := named(2,
		rule(0, row(span(0, 255), ref(2))), rule(1, row(ref(0), ref(5))),
		rule(2, row(ref(1), ref(3))), rule(3, row(span('a', 'z'), ref(4))), rule(4, row(ref(0), ref(1))),
		rule(5, row(ref(0), one(0))))
	made.Names = append(made.Names, "_0", "_1", "_2", "_3")
	want(t, g, made)
	kinds := []api.Symbol{ref(0), ref(1), one('a'), span(0, 255)}
	for length := range 6 {
		samples.EachChoice(length, len(kinds), func(chosen []int) {
			var seq []api.Symbol
			for _, k := range chosen {
				seq = append(seq, kinds[k])
			}
			wantAgain(t, named(2, rule(0, row(seq...)), rule(1, row())))
			wantAgain(t, named(2, rule(0, row()), rule(1, row(), rowNot(seq...))))
		})
	}
}

// TestNegatedConjuncts: a negated conjunct stays negated, its new names'
// conjuncts are not, and others do not become so.
func TestNegatedConjuncts(t *testing.T) {
	wantRead(t, `start S; S = ~ "abcd";`, `start S; S = ~ "a" _0; _0 = "b" _1; _1 = "cd";`)
	wantRead(t, `start S; S = ~ "abc" & "abc" & ~ "" & "";`, `start S; S = ~ "a" _0 & "a" _1 & ~ "" & ""; _0 = "bc"; _1 = "bc";`)
	wantRead(t, `start S; S = "" & ~ "x" T "y" | T T T; T = ~ "t";`,
		`start S; S = "" & ~ "x" _0 | T _1; T = ~ "t"; _0 = T "y"; _1 = T T;`)
	samples.EachChoice(4, 2, func(chosen []int) {
		sign := func(i int) string { return []string{"", "~ "}[chosen[i]] }
		wantRead(t,
			`start S; S = `+sign(0)+`"abcd" & `+sign(1)+`"e" | `+sign(2)+`S S S & `+sign(3)+`"";`,
			`start S; S = `+sign(0)+`"a" _0 & `+sign(1)+`"e" | `+sign(2)+`S _2 & `+sign(3)+`""; _0 = "b" _1; _1 = "cd"; _2 = S S;`)
	})
}

// TestRowOfNewNames: rule by rule, conjunct by conjunct, each conjunct's names
// one within the other.
func TestRowOfNewNames(t *testing.T) {
	wantRead(t, `start S; S = "abcd" & "efgh" | "ijkl"; T = "mnop" | "" | "qrst";`,
		`start S; S = "a" _0 & "e" _2 | "i" _4; T = "m" _6 | "" | "q" _8;
		_0 = "b" _1; _1 = "cd"; _2 = "f" _3; _3 = "gh"; _4 = "j" _5; _5 = "kl";
		_6 = "n" _7; _7 = "op"; _8 = "r" _9; _9 = "st";`)
	// The same rest twice is two names.
	wantRead(t, `start S; S = "abc" | "abc" & ~ "xbc" | "bbc";`,
		`start S; S = "a" _0 | "a" _1 & ~ "x" _2 | "b" _3; _0 = "bc"; _1 = "bc"; _2 = "bc"; _3 = "bc";`)
	// So are rests that stand within another one.
	wantRead(t, `start S; S = "aaaa" | "aaa";`, `start S; S = "a" _0 | "a" _2; _0 = "a" _1; _1 = "aa"; _2 = "aa";`)
}

// TestStarts: the start stays where it is, whichever it is.
func TestStarts(t *testing.T) {
	g := samples.Read(`start S; S = "abc" | T; T = ~ "a" U "c" & ""; U = "u" U "u" U | "";`)
	for start := range g.Names {
		g.Start = start
		want(t, g, binAgain(g))
		if got, _ := bin.Bin(g); got.Start != start {
			t.Errorf("P14.1: start %d, not %d", got.Start, start)
		}
	}
}

// TestOldStaysWhereItIs: the old names and the old rules are as many as they
// were, in their row.
func TestOldStaysWhereItIs(t *testing.T) {
	r := samples.Numbers(14)
	for range 1000 {
		g := longer(&r, r.Grammar(6))
		b, e := bin.Bin(g)
		if e == api.ErrBinMany {
			continue
		}
		if !slices.Equal(b.Names[:len(g.Names)], g.Names) {
			t.Fatalf("P14.1: %v became %v", g.Names, b.Names)
		}
		for i, x := range g.Rules {
			if y := b.Rules[i]; y.Head != x.Head || len(y.Conj) != len(x.Conj) {
				t.Fatalf("P14.1: %v became %v", x, y)
			}
			for k, c := range x.Conj {
				d := b.Rules[i].Conj[k]
				if d.Neg != c.Neg || len(d.Seq) != min(len(c.Seq), 2) || len(c.Seq) > 0 && d.Seq[0] != c.Seq[0] {
					t.Fatalf("P14.1: %v became %v", c, d)
				}
			}
		}
		for i, x := range b.Rules[len(g.Rules):] {
			if x.Head != len(g.Names)+i || len(x.Conj) != 1 || x.Conj[0].Neg || len(x.Conj[0].Seq) != 2 {
				t.Fatalf("P14.1: new rule %v", x)
			}
		}
	}
}

// newNames is the names that stand behind those of a grammar.
func newNames(t *testing.T, old []string, news int) []string {
	t.Helper()
	g := api.Grammar{Names: old}
	for i := range old {
		g.Rules = append(g.Rules, rule(i, row()))
	}
	g.Rules[0].Conj[0] = row(many(2 + news)...)
	b, e := bin.Bin(g)
	if e != api.OK || len(b.Names) != len(old)+news || !slices.Equal(b.Names[:len(old)], old) {
		t.Fatalf("P14.1: %v became %v, %d", old, b.Names, e)
	}
	return b.Names[len(old):]
}

// TestNamesLeftOut: numbers from 0 on, without those that g has.
func TestNamesLeftOut(t *testing.T) {
	for _, c := range []struct{ old, news string }{
		{"S", ""},
		{"S", "_0"},
		{"S", "_0 _1 _2 _3 _4 _5 _6 _7 _8 _9 _10 _11"},
		{"_0", "_1"},
		{"_0", "_1 _2"},
		{"S _0", "_1 _2"},
		{"_0 S", "_1 _2"},
		{"S _1", "_0"},
		{"S _1", "_0 _2 _3"},
		{"_1 S", "_0 _2 _3"},
		{"S _2", "_0 _1 _3"},
		{"S _2", "_0 _1"},
		{"_0 _1 _2", "_3"},
		{"_2 _1 _0", "_3 _4"},
		{"_1 _0 _2", "_3 _4"},
		{"S _1 _2 _3", "_0 _4 _5"},
		{"_3 S _1 _2", "_0 _4 _5"},
		{"_0 _2 _4 S", "_1 _3 _5 _6"},
		{"S _4 _2 _0", "_1 _3 _5 _6"},
		{"S _10 _9", "_0 _1 _2 _3 _4 _5 _6 _7 _8 _11"},
		{"S _100 _62 _63 _64", "_0 _1"},
		// Names that are near to new ones.
		{"_", "_0 _1"},
		{"_ __ _00 _01 __0 _0a _0_ n0 _1_ S1 _x", "_0 _1 _2"},
		{"_00 _000 _02", "_0 _1 _2 _3"},
		{"n0 n1", "_0 _1"},
	} {
		if got := newNames(t, strings.Fields(c.old), len(strings.Fields(c.news))); !slices.Equal(got, strings.Fields(c.news)) {
			t.Errorf("P14.1: %q: %v, not %q", c.old, got, c.news)
		}
	}
}

// TestManyNamesLeftOut: as many as a grammar can have.
func TestManyNamesLeftOut(t *testing.T) {
	for from := range 70 {
		var old []string
		for i := range api.MaxNames - 1 {
			old = append(old, fmt.Sprintf("_%d", from+i))
		}
		first := "_0"
		if from == 0 {
			first = "_63"
		}
		if got := newNames(t, old, 1); !slices.Equal(got, []string{first}) {
			t.Errorf("P14.1: from %d on: %v", from, got)
		}
		slices.Reverse(old)
		if got := newNames(t, old, 1); !slices.Equal(got, []string{first}) {
			t.Errorf("P14.1: down to %d: %v", from, got)
		}
	}
}

// TestNamesLeftOutAnywhere: all choices of names that g may have among the
// first new ones.
func TestNamesLeftOutAnywhere(t *testing.T) {
	samples.EachChoice(8, 2, func(chosen []int) {
		old, news := []string{"S"}, []string(nil)
		for i, has := range chosen {
			if name := fmt.Sprintf("_%d", i); has == 1 {
				old = append(old, name)
			} else {
				news = append(news, name)
			}
		}
		news = append(news, "_8", "_9", "_10")
		if got := newNames(t, old, len(news)); !slices.Equal(got, news) {
			t.Errorf("P14.1: %v: %v, not %v", old, got, news)
		}
	})
}

// TestNewNamesAreNotOld: symbols that are a name of g, whatever it is called,
// stay that name.
func TestNewNamesAreNotOld(t *testing.T) {
	wantRead(t, `start _1; _1 = _0 _1 _0 _1 | ""; _0 = "abc" & ~ _1 _1 _3; _3 = "z";`,
		`start _1; _1 = _0 _2 | ""; _0 = "a" _5 & ~ _1 _6; _3 = "z"; _2 = _1 _4; _4 = _0 _1; _5 = "bc"; _6 = _1 _3;`)
}

// TestTwice: what is of two already stays.
func TestTwice(t *testing.T) {
	r := samples.Numbers(1414)
	for range 500 {
		if b, e := bin.Bin(longer(&r, r.Grammar(6))); e == api.OK {
			want(t, b, b)
		}
	}
}

// longer is g, some of whose conjuncts have more symbols, of those that stand
// in them already, so that names need no others.
func longer(r *samples.Numbers, g api.Grammar) api.Grammar {
	for _, x := range g.Rules {
		for k, c := range x.Conj {
			if len(c.Seq) == 0 || r.Next(3) == 0 {
				continue
			}
			for range r.Next(5) {
				x.Conj[k].Seq = append(x.Conj[k].Seq, c.Seq[r.Next(len(c.Seq))])
			}
		}
	}
	return g
}

func TestMixedGrammars(t *testing.T) {
	r := samples.Numbers(141)
	answers, refused := 0, 0
	for i := range 3000 {
		g := longer(&r, r.Grammar(1+i%20))
		for k := range g.Names {
			if r.Next(4) == 0 {
				g.Names[k] = fmt.Sprintf("_%d", k)
			}
		}
		if gram.May(binAgain(g)) {
			answers++
		} else {
			refused++
		}
		wantAgain(t, g)
	}
	if answers < 1000 || refused < 100 {
		t.Errorf("%d answers, %d refused", answers, refused)
	}
}

// TestMeaningOfTexts: P14.2: unions, conjunctions, negations, and what has the
// empty text in several ways.
func TestMeaningOfTexts(t *testing.T) {
	for _, text := range []string{
		`start S; S = "abc";`,
		`start S; S = "a" S "b" | "" | "cccc";`,
		`start S; S = A B C & "a" A C; A = "a" A | ""; B = "b" B | ""; C = "c" C "c" C | "";`,
		`start S; S = A D & E C; A = "a" A | ""; C = "c" C | ""; D = "b" D "c" | ""; E = "a" E "b" | "";`,
		`start S; S = X X X & ~ X "a" X "a" X; X = 'a'..'c' X | "";`,
		`start S; S = ~ "abc" & ~ "a" S2 S2 "c" & X; S2 = 'b'..'c' | ~ X X X; X = 'a'..'c' X | "";`,
		`start S; S = ~ A A A A; A = "a" | "bb" & ~ "b" C "b"; C = "";`,
		`start S; S = S S S | "a" | "b" S "b" S;`,
		`start S; S = S S S & S S S S | "" | T; T = "ab" T "c" & ~ U U U | "c"; U = "c" U "a" | "c";`,
		`start S; S = A A A; A = B B B; B = ~ 'a'..'c' 'a'..'c' 'a'..'c' | "";`,
		`start _0; _0 = _1 _1 _1 & ~ "aba"; _1 = "a" | "b" _1 "b" | "";`,
	} {
		g := samples.Read(text)
		if _, e := mean.New(g, ""); e != api.OK {
			t.Fatalf("%s: %d", text, e)
		}
		wantMeanings(t, g, 5)
	}
}

func TestMeaningOfMixedGrammars(t *testing.T) {
	r := samples.Numbers(142)
	cut := 0
	for range 150 {
		g := longer(&r, r.Leveled(4))
		if _, e := bin.Bin(g); e != api.OK {
			continue
		}
		if binned := binAgain(g); len(binned.Names) > len(g.Names)+3 {
			cut++
		}
		wantMeanings(t, g, 3)
		wantMeaning(t, g, r.Text(9))
	}
	if cut < 50 {
		t.Errorf("%d grammars are cut", cut)
	}
}

// TestGrammarStaysAsItWas: R4: what is handed in is not changed, its spare room
// neither, and the answer does not hang on it any more.
func TestGrammarStaysAsItWas(t *testing.T) {
	spoiled := samples.Plain()
	spoiled.Start = 2
	small := samples.Read(`start S; S = "abcd" | "ab" & ~ "" | S S S & "a"; T = "b" | "";`)
	short := samples.Read(`start T; S = "ab" | "" & ~ "c"; T = S T;`)
	for _, g := range []api.Grammar{samples.Plain(), spoiled, small, short, full(2, api.MaxNames)} {
		given := samples.Roomy(g)
		b, e := bin.Bin(given)
		if !samples.Same(given, samples.Roomy(g)) {
			t.Errorf("R4: %v became %v", g, given)
		}
		if e == api.OK {
			spoil(given)
			if !same(b, binAgain(g)) {
				t.Errorf("R4: %v hangs on what was given", b)
			}
		}
		given = samples.Roomy(g)
		if b, e := bin.Bin(given); e == api.OK {
			spoil(b)
			if !samples.Same(given, samples.Roomy(g)) {
				t.Errorf("R4: %v became %v with the answer", g, given)
			}
		}
	}
	wantPlain(t)
}

// spoil makes all of a grammar's lists nothing, their spare room too.
func spoil(g api.Grammar) {
	for _, r := range g.Rules {
		for _, c := range r.Conj {
			wipe(c.Seq)
		}
		wipe(r.Conj)
	}
	wipe(g.Rules)
	wipe(g.Names)
}

// wipe makes all of a list nothing, its spare room too.
func wipe[T any](list []T) {
	clear(list[:cap(list)])
}

// TestAnswersAreApart: R4: whoever changes a list of an answer, its spare room
// too, changes no other list of it, and no other answer.
func TestAnswersAreApart(t *testing.T) {
	g := samples.Read(`start S; S = "abcd" & "ef" | "" | ~ "ghi" & S S S; T = "jklmn" & ~ "" | T;`)
	fresh, _ := bin.Bin(g)
	for i, r := range fresh.Rules {
		for k := range r.Conj {
			b, _ := bin.Bin(g)
			wipe(b.Rules[i].Conj[k].Seq)
			b.Rules[i].Conj[k].Seq = fresh.Rules[i].Conj[k].Seq
			if !same(b, fresh) {
				t.Errorf("R4: %v with conjunct %d of rule %d", b, k, i)
			}
		}
		b, _ := bin.Bin(g)
		wipe(b.Rules[i].Conj)
		b.Rules[i].Conj = fresh.Rules[i].Conj
		if !same(b, fresh) {
			t.Errorf("R4: %v with rule %d", b, i)
		}
	}
	b, _ := bin.Bin(g)
	spoil(b)
	if !same(fresh, binAgain(g)) {
		t.Errorf("R4: %v", fresh)
	}
	want(t, g, fresh)
}

// TestNothingIsKept: R5: answers hang on what is given alone; many times the
// same call answers the same.
func TestNothingIsKept(t *testing.T) {
	r := samples.Numbers(1404)
	for range 200 {
		bin.Bin(longer(&r, r.Grammar(10)))
		wantNone(t, "nothing", api.Grammar{}, api.ErrBinForm)
		wantPlain(t)
	}
	wantMany(t, "too many", full(1, api.MaxNames))
	wantPlain(t)
	g := longer(&r, r.Leveled(6))
	for range 100 {
		wantAgain(t, g)
	}
}

func TestSeveralGoroutines(t *testing.T) {
	var group sync.WaitGroup
	for range 8 {
		group.Go(func() {
			for range 50 {
				wantPlain(t)
				wantMany(t, "too many", full(1, api.MaxNames))
				wantNone(t, "nothing", api.Grammar{}, api.ErrBinForm)
			}
		})
	}
	group.Wait()
}

// TestGreatGrammars: R1: what is far too much is refused in a time that its
// size explains.
func TestGreatGrammars(t *testing.T) {
	for _, s := range samples.Great() {
		wantNone(t, s.What, s.Grammar, api.ErrBinForm)
	}
}

// TestAnyNumbers: R1: no numbers make a panic; what may be has its answer, all
// else is refused.
func TestAnyNumbers(t *testing.T) {
	for _, g := range samples.AnyNumbers() {
		if gram.May(g) {
			wantAgain(t, g)
		} else {
			wantNone(t, "may not be", g, api.ErrBinForm)
		}
	}
}
