package gram_test

import (
	"fmt"
	"reflect"
	"strconv"
	"strings"
	"sync"
	"testing"

	"temple/api"
	"temple/gram"
	"temple/note"
)

const biggest = int(^uint(0) >> 1)

func name(text string) api.RawItem {
	return api.RawItem{Kind: api.TokName, Text: text}
}

func text(bytes string) api.RawItem {
	return api.RawItem{Kind: api.TokText, Text: bytes}
}

func span(lo, hi int) api.RawItem {
	return api.RawItem{Kind: api.TokRange, Lo: lo, Hi: hi}
}

func is(items ...api.RawItem) api.RawConj {
	return api.RawConj{Items: items}
}

func isNot(items ...api.RawItem) api.RawConj {
	return api.RawConj{Neg: true, Items: items}
}

func alt(conjuncts ...api.RawConj) []api.RawConj {
	return conjuncts
}

func def(name string, alts ...[]api.RawConj) api.RawDef {
	return api.RawDef{Name: name, Alts: alts}
}

// from is what some definitions declare, with a start.
func from(start string, defs ...api.RawDef) api.Raw {
	return api.Raw{Starts: []string{start}, Defs: defs}
}

// ref is the symbol of a name's number.
func ref(n int) api.Symbol {
	return api.Symbol{Name: n}
}

func bytes(lo, hi int) api.Symbol {
	return api.Symbol{Name: -1, Lo: lo, Hi: hi}
}

// one is the symbols of a text's bytes.
func one(s string) []api.Symbol {
	var out []api.Symbol
	for _, c := range []byte(s) {
		out = append(out, bytes(int(c), int(c)))
	}
	return out
}

func row(symbols ...api.Symbol) api.Conjunct {
	return api.Conjunct{Seq: symbols}
}

func rowNot(symbols ...api.Symbol) api.Conjunct {
	return api.Conjunct{Neg: true, Seq: symbols}
}

func rule(head int, conjuncts ...api.Conjunct) api.Rule {
	return api.Rule{Head: head, Conj: conjuncts}
}

// copyOf is g in new memory, with nil in place of each empty list.
func copyOf(g api.Grammar) api.Grammar {
	out := api.Grammar{Start: g.Start, Names: append([]string(nil), g.Names...)}
	for _, r := range g.Rules {
		c := api.Rule{Head: r.Head}
		for _, conj := range r.Conj {
			c.Conj = append(c.Conj, api.Conjunct{Neg: conj.Neg, Seq: append([]api.Symbol(nil), conj.Seq...)})
		}
		out.Rules = append(out.Rules, c)
	}
	return out
}

// raw is what a text declares.
func raw(t *testing.T, s string) api.Raw {
	t.Helper()
	r, at, e := note.Parse(s)
	if e != api.OK {
		t.Fatalf("P3.1: Parse(%.80q): %d at %d", s, e, at)
	}
	return r
}

// brief tells the beginning of something that may be long.
func brief(x any) string {
	return fmt.Sprintf("%.200s", fmt.Sprint(x))
}

// wantGrammar holds what r builds against what it must; R2: nobody's fault
// beside it; P4.1: it may be.
func wantGrammar(t *testing.T, r api.Raw, want api.Grammar) {
	t.Helper()
	got, who, e := gram.Build(r)
	if e != api.OK || who != "" || !reflect.DeepEqual(copyOf(got), copyOf(want)) {
		t.Errorf("P4.2: Build(%s) = %s, %q, %d, not %s", brief(r), brief(got), who, e, brief(want))
	}
	if !gram.May(got) || !gram.May(want) {
		t.Errorf("P4.1: May(%s) is false", brief(want))
	}
}

// wantFault holds r against its fault; R2: no grammar beside it.
func wantFault(t *testing.T, r api.Raw, who string, fault api.Errno) {
	t.Helper()
	got, whose, e := gram.Build(r)
	if e != fault || whose != who || got.Start != 0 || len(got.Names)+len(got.Rules) != 0 {
		t.Errorf("P4.2: Build(%s) = %s, %q, %d, not %q, %d", brief(r), brief(got), whose, e, who, fault)
	}
}

// wantMay holds a grammar against whether it may be.
func wantMay(t *testing.T, what string, g api.Grammar, want bool) {
	t.Helper()
	if got := gram.May(g); got != want {
		t.Errorf("P4.1: %s: May(%s) = %v", what, brief(g), got)
	}
}

// plain is a grammar of two names that may be; each test changes one part.
func plain() api.Grammar {
	return api.Grammar{
		Names: []string{"S", "T"},
		Rules: []api.Rule{
			rule(0, row(ref(1), bytes('a', 'z')), rowNot(ref(0))),
			rule(0, row()),
			rule(1, row(bytes(0, 255))),
		},
	}
}

// called is plain with other names.
func called(names ...string) api.Grammar {
	g := plain()
	g.Names = names
	return g
}

// headed is a grammar of so many names with a rule for each head.
func headed(names int, heads ...int) api.Grammar {
	var g api.Grammar
	for i := range names {
		g.Names = append(g.Names, "n"+strconv.Itoa(i))
	}
	for _, h := range heads {
		g.Rules = append(g.Rules, rule(h, row()))
	}
	return g
}

// having is plain with another row of symbols in its first conjunct.
func having(symbols ...api.Symbol) api.Grammar {
	g := plain()
	g.Rules[0].Conj[0].Seq = symbols
	return g
}

// repeat is a list of n times the same.
func repeat[T any](x T, n int) []T {
	var out []T
	for range n {
		out = append(out, x)
	}
	return out
}

// counted is 0, 1, .. up to n-1.
func counted(n int) []int {
	var out []int
	for i := range n {
		out = append(out, i)
	}
	return out
}

func TestMay(t *testing.T) {
	wantMay(t, "plain", plain(), true)
	wantMay(t, "nothing", api.Grammar{}, false)
	wantMay(t, "one name", headed(1, 0), true)
	g := plain()
	g.Rules[1].Conj[0].Seq = []api.Symbol{}
	wantMay(t, "an empty row that is not nil", g, true)
	g.Rules[0].Conj[0].Neg = true
	wantMay(t, "all negated", g, true)
}

func TestMayNames(t *testing.T) {
	wantMay(t, "no name", called(), false)
	wantMay(t, "no name and no rule", headed(0), false)
	wantMay(t, "a name without a rule", called("S", "T", "U"), false)
	wantMay(t, "MaxNames", headed(api.MaxNames, counted(api.MaxNames)...), true)
	wantMay(t, "MaxNames and one", headed(api.MaxNames+1, counted(api.MaxNames+1)...), false)
	wantMay(t, "the same twice", called("S", "S"), false)
	wantMay(t, "the same in capitals", called("S", "s"), true)
	g := headed(4, 0, 1, 2, 3)
	g.Names[3] = g.Names[0]
	wantMay(t, "the same far apart", g, false)
	wantMay(t, "MaxName bytes", called("S", strings.Repeat("n", api.MaxName)), true)
	wantMay(t, "MaxName bytes and one", called("S", strings.Repeat("n", api.MaxName+1)), false)
	wantMay(t, "a name that is long", called("S", strings.Repeat("n", 2*api.MaxText)), false)
	for _, good := range []string{"_", "__", "_9", "Az09_", "starts", "Start", "star", "start_", "START", "x"} {
		wantMay(t, good, called("S", good), true)
		wantMay(t, good, called(good, "S"), true)
	}
	for _, bad := range []string{
		"", "start", "9", "0a", "a-b", "a b", " a", "a ", "\ta", "a\n", "a#", "#a", "#", " ", "a;", "a=", "=",
		`"a"`, "'a'", `"`, "é", "a\x00", "\x00", "\xff", "a\xff", "a.b", "start start", "a start", "start ",
	} {
		wantMay(t, strconv.Quote(bad), called("S", bad), false)
		wantMay(t, strconv.Quote(bad), called(bad, "S"), false)
	}
}

func TestMayEachByteOfNames(t *testing.T) {
	for c := range 256 {
		letter := 'A' <= c && c <= 'Z' || 'a' <= c && c <= 'z' || c == '_'
		inside := letter || '0' <= c && c <= '9'
		b := string([]byte{byte(c)})
		wantMay(t, "a name's first byte", called("SS", b), letter)
		wantMay(t, "a name's byte", called("SS", "n"+b), inside)
		wantMay(t, "a name's byte inside", called("SS", "n"+b+"n"), inside)
	}
}

func TestMayStart(t *testing.T) {
	for _, c := range []struct {
		start int
		want  bool
	}{{0, true}, {1, true}, {-1, false}, {2, false}, {biggest, false}, {-biggest - 1, false}} {
		g := plain()
		g.Start = c.start
		wantMay(t, "a start", g, c.want)
	}
	g := headed(api.MaxNames, counted(api.MaxNames)...)
	g.Start = api.MaxNames - 1
	wantMay(t, "the last name as start", g, true)
	g.Start = api.MaxNames
	wantMay(t, "a start behind the last name", g, false)
}

func TestMayHeads(t *testing.T) {
	wantMay(t, "no rule", headed(1), false)
	wantMay(t, "MaxRules", headed(1, repeat(0, api.MaxRules)...), true)
	wantMay(t, "MaxRules and one", headed(1, repeat(0, api.MaxRules+1)...), false)
	wantMay(t, "MaxRules of two", headed(2, append(repeat(0, api.MaxRules-1), 1)...), true)
	wantMay(t, "MaxRules and one of two", headed(2, append(repeat(0, api.MaxRules), 1)...), false)
	wantMay(t, "all in their row", headed(3, 0, 0, 1, 2, 2, 2), true)
	wantMay(t, "heads that fall", headed(2, 1, 0), false)
	wantMay(t, "heads that fall back", headed(2, 0, 1, 0), false)
	wantMay(t, "heads that fall by two", headed(3, 0, 1, 2, 0), false)
	wantMay(t, "the first name without a rule", headed(2, 1), false)
	wantMay(t, "a name in the middle without a rule", headed(3, 0, 2), false)
	wantMay(t, "the last name without a rule", headed(2, 0, 0), false)
	wantMay(t, "a head above the last", headed(2, 0, 1, 2), false)
	wantMay(t, "a head above the only one", headed(1, 1), false)
	wantMay(t, "a head below 0", headed(1, -1), false)
	wantMay(t, "a head below 0 ahead of all", headed(2, -1, 0, 1), false)
	wantMay(t, "heads beyond all", headed(1, 0, biggest), false)
	wantMay(t, "heads beyond all", headed(1, -biggest-1, 0), false)
}

func TestMayConjuncts(t *testing.T) {
	for _, place := range []int{0, 1, 2} {
		g := plain()
		g.Rules[place].Conj = nil
		wantMay(t, "no conjunct", g, false)
		g.Rules[place].Conj = repeat(row(ref(0)), api.MaxConj)
		wantMay(t, "MaxConj", g, true)
		g.Rules[place].Conj = repeat(row(ref(0)), api.MaxConj+1)
		wantMay(t, "MaxConj and one", g, false)
		g.Rules[place].Conj = repeat(rowNot(), api.MaxConj+1)
		wantMay(t, "MaxConj and one, all empty", g, false)
	}
}

func TestMayRows(t *testing.T) {
	wantMay(t, "MaxSeq", having(repeat(ref(1), api.MaxSeq)...), true)
	wantMay(t, "MaxSeq and one", having(repeat(ref(1), api.MaxSeq+1)...), false)
	g := plain()
	g.Rules[2].Conj = []api.Conjunct{row(), row(repeat(bytes('a', 'b'), api.MaxSeq)...)}
	wantMay(t, "MaxSeq in the last conjunct", g, true)
	g.Rules[2].Conj[1].Seq = append(g.Rules[2].Conj[1].Seq, ref(0))
	wantMay(t, "MaxSeq and one in the last conjunct", g, false)
}

// TestMaySymbolsInAll: 1024 symbols are 16 rows of 64.
func TestMaySymbolsInAll(t *testing.T) {
	full := func() api.Grammar {
		g := headed(2, 0, 1, 1)
		for i := range g.Rules[:2] {
			g.Rules[i].Conj = nil
			for range api.MaxConj {
				g.Rules[i].Conj = append(g.Rules[i].Conj, row(repeat(ref(1), api.MaxSeq)...))
			}
		}
		return g
	}
	wantMay(t, "MaxSymbols", full(), true)
	g := full()
	g.Rules[2].Conj[0].Seq = []api.Symbol{ref(0)}
	wantMay(t, "MaxSymbols and one", g, false)
	g.Rules[0].Conj[3].Seq = g.Rules[0].Conj[3].Seq[1:]
	wantMay(t, "MaxSymbols, otherwise spread", g, true)
	g.Rules[2].Conj[0].Seq = []api.Symbol{bytes(0, 0), bytes(0, 0)}
	wantMay(t, "MaxSymbols and one, otherwise spread", g, false)
}

func TestMaySymbols(t *testing.T) {
	for _, c := range []struct {
		s    api.Symbol
		want bool
	}{
		{bytes(0, 0), true}, {bytes(0, 255), true}, {bytes(255, 255), true}, {bytes('a', 'b'), true},
		{bytes(-1, 5), false}, {bytes(-1, -1), false}, {bytes(0, 256), false}, {bytes(256, 256), false},
		{bytes(6, 5), false}, {bytes(255, 0), false}, {bytes(0, -1), false},
		{bytes(-biggest-1, biggest), false}, {bytes(biggest, -biggest-1), false},
		{ref(0), true}, {ref(1), true}, {ref(2), false}, {ref(-2), false}, {ref(biggest), false}, {ref(-biggest - 1), false},
		{api.Symbol{Name: 0, Lo: 1}, false}, {api.Symbol{Name: 0, Hi: 1}, false}, {api.Symbol{Name: 0, Lo: 1, Hi: 1}, false},
		{api.Symbol{Name: 1, Lo: -1}, false}, {api.Symbol{Name: 1, Hi: -1}, false}, {api.Symbol{Name: 1, Lo: 'a', Hi: 'z'}, false},
		{api.Symbol{Name: -2, Lo: 'a', Hi: 'z'}, false}, {api.Symbol{Name: 2, Lo: 'a', Hi: 'z'}, false},
	} {
		wantMay(t, "alone", having(c.s), c.want)
		wantMay(t, "first", having(c.s, ref(0)), c.want)
		wantMay(t, "last", having(ref(0), bytes(1, 2), c.s), c.want)
		g := plain()
		g.Rules[2].Conj = append(g.Rules[2].Conj, rowNot(c.s))
		wantMay(t, "in the last conjunct", g, c.want)
	}
}

// mayBe is the chapter's sentence once more, said as plainly as can be.
func mayBe(g api.Grammar) bool {
	if len(g.Names) < 1 || len(g.Names) > 64 || len(g.Rules) < 1 || len(g.Rules) > 256 {
		return false
	}
	if g.Start < 0 || g.Start >= len(g.Names) {
		return false
	}
	for i := range g.Names {
		rules := 0
		for _, r := range g.Rules {
			if r.Head == i {
				rules++
			}
		}
		if rules == 0 {
			return false
		}
	}
	for i, r := range g.Rules {
		if r.Head < 0 || r.Head >= len(g.Names) || i > 0 && g.Rules[i-1].Head > r.Head {
			return false
		}
	}
	return true
}

// TestMayAllHeads holds all short rows of heads and all starts against the
// chapter's sentence.
func TestMayAllHeads(t *testing.T) {
	for names := range 5 {
		for length := range 6 {
			for code := range pow(6, length) {
				var heads []int
				for c := range length {
					heads = append(heads, code/pow(6, c)%6-1)
				}
				g := headed(names, heads...)
				for start := -1; start < 6; start++ {
					g.Start = start
					if gram.May(g) != mayBe(g) {
						t.Fatalf("P4.1: %d names, start %d, heads %v: %v", names, start, heads, gram.May(g))
					}
				}
			}
		}
	}
}

func pow(base, n int) int {
	out := 1
	for range n {
		out *= base
	}
	return out
}

func TestBuild(t *testing.T) {
	wantGrammar(t, raw(t, `start S; S = "";`), api.Grammar{Names: []string{"S"}, Rules: []api.Rule{rule(0, row())}})
	wantGrammar(t, raw(t, `start S; S = "a" S "b" | "" & ~ 'c'..'d' T; T = 'x';`), api.Grammar{
		Names: []string{"S", "T"},
		Rules: []api.Rule{
			rule(0, row(bytes('a', 'a'), ref(0), bytes('b', 'b'))),
			rule(0, row(), rowNot(bytes('c', 'd'), ref(1))),
			rule(1, row(bytes('x', 'x'))),
		},
	})
}

func TestNamesInTheirRow(t *testing.T) {
	wantGrammar(t, raw(t, `C = B; A = C; start A; B = A;`), api.Grammar{
		Start: 1,
		Names: []string{"C", "A", "B"},
		Rules: []api.Rule{rule(0, row(ref(2))), rule(1, row(ref(0))), rule(2, row(ref(1)))},
	})
	wantGrammar(t, raw(t, `b = "x"; a = b a; start b;`), api.Grammar{
		Names: []string{"b", "a"},
		Rules: []api.Rule{rule(0, row(one("x")...)), rule(1, row(ref(0), ref(1)))},
	})
	for start := range 3 {
		g, _, e := gram.Build(from("n"+strconv.Itoa(start), def("n0", alt(is())), def("n1", alt(is())), def("n2", alt(is()))))
		if e != api.OK || g.Start != start {
			t.Errorf("P4.2: start n%d: %d, %d", start, g.Start, e)
		}
	}
}

func TestRulesInTheirRow(t *testing.T) {
	wantGrammar(t, raw(t, `start S; T = "t" | "s" | "t"; S = "b" & "a" & "b" | T;`), api.Grammar{
		Start: 1,
		Names: []string{"T", "S"},
		Rules: []api.Rule{
			rule(0, row(one("t")...)),
			rule(0, row(one("s")...)),
			rule(0, row(one("t")...)),
			rule(1, row(one("b")...), row(one("a")...), row(one("b")...)),
			rule(1, row(ref(0))),
		},
	})
}

func TestItems(t *testing.T) {
	want := func(conjunct api.RawConj, wanted api.Conjunct) {
		t.Helper()
		wantGrammar(t, from("S", def("S", alt(conjunct))), api.Grammar{Names: []string{"S"}, Rules: []api.Rule{rule(0, wanted)}})
	}
	want(is(), row())
	want(isNot(), rowNot())
	want(is(text("")), row())
	want(is(text(""), text(""), text("")), row())
	want(isNot(text("")), rowNot())
	want(is(text("a")), row(one("a")...))
	want(is(text("bab")), row(one("bab")...))
	want(is(text("b"), text(""), text("ab")), row(one("bab")...))
	want(is(text("\x00\x7f\x80\xff")), row(one("\x00\x7f\x80\xff")...))
	want(is(text("é☃")), row(one("é☃")...))
	want(is(text("S")), row(one("S")...))
	want(is(span(0, 255)), row(bytes(0, 255)))
	want(is(span(7, 7)), row(bytes(7, 7)))
	want(is(span(0, 0)), row(bytes(0, 0)))
	want(is(name("S")), row(ref(0)))
	want(isNot(name("S"), span('a', 'b'), text("xy"), name("S")),
		rowNot(ref(0), bytes('a', 'b'), bytes('x', 'x'), bytes('y', 'y'), ref(0)))
}

// TestFieldsThatAnItemHasNot: only the fields that an item of its kind has are
// read.
func TestFieldsThatAnItemHasNot(t *testing.T) {
	items := is(
		api.RawItem{Kind: api.TokName, Text: "S", Lo: 9, Hi: 3},
		api.RawItem{Kind: api.TokText, Text: "Q", Lo: 9, Hi: 300},
		api.RawItem{Kind: api.TokRange, Text: "Q", Lo: 3, Hi: 9},
	)
	wantGrammar(t, from("S", def("S", alt(items))), api.Grammar{
		Names: []string{"S"},
		Rules: []api.Rule{rule(0, row(ref(0), bytes('Q', 'Q'), bytes(3, 9)))},
	})
}

func TestTwice(t *testing.T) {
	wantFault(t, raw(t, `start S; S = S; S = S;`), "S", api.ErrGramTwice)
	wantFault(t, raw(t, `start S; S = S; T = S; T = S; S = S;`), "T", api.ErrGramTwice)
	wantFault(t, raw(t, `start S; S = S; T = S; S = S; T = S;`), "S", api.ErrGramTwice)
	wantFault(t, raw(t, `start S; S = S; A = S; B = S; C = S; B = S; B = S;`), "B", api.ErrGramTwice)
	wantFault(t, from("S", def("S", alt(is())), def(""), def("")), "", api.ErrGramTwice)
}

func TestStart(t *testing.T) {
	wantFault(t, api.Raw{}, "", api.ErrGramStart)
	wantFault(t, raw(t, `S = S;`), "", api.ErrGramStart)
	wantFault(t, raw(t, `start S; start S; S = S;`), "", api.ErrGramStart)
	wantFault(t, raw(t, `start S; start T; S = S; T = T;`), "", api.ErrGramStart)
	wantFault(t, raw(t, `start S; start S; start S; S = S;`), "", api.ErrGramStart)
}

func TestUnknownNames(t *testing.T) {
	wantFault(t, raw(t, `start S;`), "S", api.ErrGramName)
	wantFault(t, raw(t, `start X; S = S;`), "X", api.ErrGramName)
	wantFault(t, raw(t, `start s; S = S;`), "s", api.ErrGramName)
	wantFault(t, raw(t, `S = A; start X; T = B;`), "X", api.ErrGramName)
	wantFault(t, raw(t, `start S; S = A;`), "A", api.ErrGramName)
	wantFault(t, raw(t, `start S; T = S; S = T X;`), "X", api.ErrGramName)
	wantFault(t, raw(t, `start S; S = ~X;`), "X", api.ErrGramName)
	wantFault(t, raw(t, `start S; S = "A" 'B' S | "" & ~ "C" 'D' T E;`), "T", api.ErrGramName)
	wantFault(t, from("S", def("S", alt(is(name(""))))), "", api.ErrGramName)
	wantFault(t, from("", def("S", alt(is()))), "", api.ErrGramName)
}

// TestFirstUnknownName: of two places, the one that stands first in the row
// of definitions, alternatives, conjuncts, items.
func TestFirstUnknownName(t *testing.T) {
	wantFault(t, raw(t, `start S; S = S; T = Z; U = A;`), "Z", api.ErrGramName)
	wantFault(t, raw(t, `start S; S = S | Z | A;`), "Z", api.ErrGramName)
	wantFault(t, raw(t, `start S; S = S & ~Z & A;`), "Z", api.ErrGramName)
	wantFault(t, raw(t, `start S; S = S Z A;`), "Z", api.ErrGramName)
	wantFault(t, raw(t, `start S; S = S | S & S Z; T = A;`), "Z", api.ErrGramName)
	wantFault(t, raw(t, `start S; S = S & S Z | A;`), "Z", api.ErrGramName)
	wantFault(t, raw(t, `start S; S = S Z & A;`), "Z", api.ErrGramName)
}

func TestCrossedRanges(t *testing.T) {
	wantFault(t, raw(t, `start S; S = 'b'..'a';`), "S", api.ErrGramRange)
	wantFault(t, raw(t, `start S; S = S; T = 'b'..'a';`), "T", api.ErrGramRange)
	wantFault(t, raw(t, `start S; T = 'a' | 'a'..'b' & ~ "x" '\xff'..'\x00'; S = 'b'..'a';`), "T", api.ErrGramRange)
	wantFault(t, raw(t, `start S; S = 'a'..'a'; U = 'b'..'a'; T = 'b'..'a';`), "U", api.ErrGramRange)
	wantFault(t, from("S", def("S", alt(is(span(-1, -2))))), "S", api.ErrGramRange)
	wantFault(t, from("S", def("S", alt(is(span(400, 300))))), "S", api.ErrGramRange)
	wantFault(t, from("S", def("S", alt(is(span(biggest, -biggest-1))))), "S", api.ErrGramRange)
}

// TestWhatMayNotBe: each way in which the grammar of a text may not be.
func TestWhatMayNotBe(t *testing.T) {
	wantFault(t, raw(t, `start S; S = `+strings.Repeat("S&", api.MaxConj)+`S;`), "", api.ErrGramMany)
	wantFault(t, raw(t, `start S; S = `+strings.Repeat("S|", api.MaxRules)+`S;`), "", api.ErrGramMany)
	wantFault(t, raw(t, `start S; S = `+strings.Repeat("S ", api.MaxSeq)+`S;`), "", api.ErrGramMany)
	wantFault(t, raw(t, `start S; S = `+strings.Repeat("'a' ", api.MaxSeq)+`S;`), "", api.ErrGramMany)
	wantFault(t, raw(t, `start S; S = "`+strings.Repeat("a", api.MaxSeq)+`" S;`), "", api.ErrGramMany)
	wantFault(t, manyNames(api.MaxNames+1), "", api.ErrGramMany)
	wantFault(t, manySymbols(api.MaxSymbols+1), "", api.ErrGramMany)
}

// TestWhatMayJustBe: the greatest of each kind.
func TestWhatMayJustBe(t *testing.T) {
	for _, r := range []api.Raw{
		raw(t, `start S; S = `+strings.Repeat("S&", api.MaxConj-1)+`S;`),
		raw(t, `start S; S = `+strings.Repeat("S|", api.MaxRules-1)+`S;`),
		raw(t, `start S; S = `+strings.Repeat("S ", api.MaxSeq-1)+`S;`),
		raw(t, `start S; S = "`+strings.Repeat("a", api.MaxSeq-1)+`" S;`),
		manyNames(api.MaxNames),
		manySymbols(api.MaxSymbols),
	} {
		g, who, e := gram.Build(r)
		if e != api.OK || who != "" || !gram.May(g) {
			t.Errorf("P4.2: Build(%s): %q, %d", brief(r), who, e)
		}
	}
}

func manyNames(n int) api.Raw {
	r := api.Raw{Starts: []string{"n0"}}
	for i := range n {
		r.Defs = append(r.Defs, def("n"+strconv.Itoa(i), alt(is())))
	}
	return r
}

// manySymbols has texts of MaxSeq bytes, and one text with the rest of n.
func manySymbols(n int) api.Raw {
	d := def("S")
	for ; n > api.MaxSeq; n -= api.MaxSeq {
		d.Alts = append(d.Alts, alt(is(text(strings.Repeat("x", api.MaxSeq)))))
	}
	d.Alts = append(d.Alts, alt(is(text(strings.Repeat("x", n)))))
	return from("S", d)
}

// TestWhatNoTextDeclares: what may not be, and what layer 3 never answers.
func TestWhatNoTextDeclares(t *testing.T) {
	one := func(item api.RawItem) api.Raw { return from("S", def("S", alt(is(item)))) }
	for _, kind := range []int{-1, 9, 77, api.TokStart, api.TokIs, api.TokBar, api.TokAnd, api.TokNot, api.TokSemi, biggest, -biggest - 1} {
		wantFault(t, one(api.RawItem{Kind: kind}), "", api.ErrGramMany)
		wantFault(t, one(api.RawItem{Kind: kind, Text: "S"}), "", api.ErrGramMany)
		wantFault(t, one(api.RawItem{Kind: kind, Text: "Q"}), "", api.ErrGramMany)
		wantFault(t, one(api.RawItem{Kind: kind, Lo: 1, Hi: 2}), "", api.ErrGramMany)
		wantFault(t, one(api.RawItem{Kind: kind, Lo: 2, Hi: 1}), "", api.ErrGramMany)
		wantFault(t, from("S", def("S", alt(is(text("a"))), alt(is(), is(name("S"), api.RawItem{Kind: kind})))), "", api.ErrGramMany)
	}
	for _, item := range []api.RawItem{span(-1, 5), span(-1, -1), span(0, 256), span(256, 256), span(-biggest-1, biggest)} {
		wantFault(t, one(item), "", api.ErrGramMany)
	}
	for _, bad := range []string{"", "start", "9", "a-b", " a", "a#", "\xff", strings.Repeat("n", api.MaxName+1)} {
		wantFault(t, from(bad, def(bad, alt(is()))), "", api.ErrGramMany)
		wantFault(t, from("S", def("S", alt(is(name(bad)))), def(bad, alt(is()))), "", api.ErrGramMany)
	}
	wantFault(t, from("S", def("S")), "", api.ErrGramMany)
	wantFault(t, from("S", def("S", alt(is())), def("T")), "", api.ErrGramMany)
	wantFault(t, from("S", def("T"), def("S", alt(is()))), "", api.ErrGramMany)
	wantFault(t, from("S", def("S", alt())), "", api.ErrGramMany)
	wantFault(t, from("S", def("S", alt(is()), alt())), "", api.ErrGramMany)
}

// TestFaultsInTheirRow: R6: of all pairs of faults the chapter's first one.
func TestFaultsInTheirRow(t *testing.T) {
	good := def("S", alt(is(name("S"))))
	faults := []struct {
		who   string
		fault api.Errno
		add   func(r *api.Raw)
	}{
		{"S", api.ErrGramTwice, func(r *api.Raw) { r.Defs = append(r.Defs, good) }},
		{"", api.ErrGramStart, func(r *api.Raw) { r.Starts = append(r.Starts, "S") }},
		{"X", api.ErrGramName, func(r *api.Raw) { r.Defs = append(r.Defs, def("N", alt(is(name("X"))))) }},
		{"R", api.ErrGramRange, func(r *api.Raw) { r.Defs = append(r.Defs, def("R", alt(is(span(2, 1))))) }},
		{"", api.ErrGramMany, func(r *api.Raw) { r.Defs = append(r.Defs, def("M")) }},
	}
	for i, a := range faults {
		for j, b := range faults {
			first := faults[min(i, j)]
			r := from("S", good)
			a.add(&r)
			if i != j {
				b.add(&r)
			}
			wantFault(t, r, first.who, first.fault)
		}
	}
	wantFault(t, api.Raw{Defs: []api.RawDef{def("M"), def("M")}}, "M", api.ErrGramTwice)
	wantFault(t, api.Raw{Defs: []api.RawDef{def("M", alt(is(name("X"))))}}, "", api.ErrGramStart)
	wantFault(t, from("S", def("S", alt(is(span(2, 1)), is(name("X"))))), "X", api.ErrGramName)
	wantFault(t, from("S", def("S", alt(is(text(strings.Repeat("x", 5000)), name("X"))))), "X", api.ErrGramName)
	wantFault(t, from("S", def("S", alt(is(text(strings.Repeat("x", 5000)), span(2, 1))))), "S", api.ErrGramRange)
	wantFault(t, from("S", def("S", alt(is(api.RawItem{Kind: 77}, span(2, 1))))), "S", api.ErrGramRange)
	wantFault(t, from("start", def("start", alt(is(name("start"), name("X"))))), "X", api.ErrGramName)
}

// TestAllSmallRaws holds all raws of two small definitions against the
// chapter, read one more time: no call panics (R1), an error answers nothing
// else (R2), and what is answered may be.
func TestAllSmallRaws(t *testing.T) {
	items := []api.RawItem{name("A"), name("B"), name("start"), text(""), text("ab"), span('a', 'b'), span('b', 'a'), span(0, 256), {Kind: 7}}
	names := []string{"A", "B", "start", ""}
	starts := [][]string{nil, {"A"}, {"B"}, {"start"}, {""}, {"A", "A"}}
	for _, s := range starts {
		for _, a := range names {
			for _, b := range names {
				for _, x := range items {
					for _, y := range items {
						r := api.Raw{Starts: s, Defs: []api.RawDef{def(a, alt(is(x))), def(b, alt(isNot(y)))}}
						g, who, e := gram.Build(r)
						wantWho, wantError := faultOf(r)
						if who != wantWho || e != wantError || gram.May(g) != (e == api.OK) {
							t.Fatalf("P4.2: Build(%v) = %v, %q, %d, not %q, %d", r, g, who, e, wantWho, wantError)
						}
					}
				}
			}
		}
	}
}

// faultOf is the fault of two definitions of one alternative, one conjunct and
// one item each.
func faultOf(r api.Raw) (string, api.Errno) {
	a, b := r.Defs[0], r.Defs[1]
	known := func(s string) bool { return s == a.Name || s == b.Name }
	if a.Name == b.Name {
		return a.Name, api.ErrGramTwice
	}
	if len(r.Starts) != 1 {
		return "", api.ErrGramStart
	}
	if !known(r.Starts[0]) {
		return r.Starts[0], api.ErrGramName
	}
	for _, d := range r.Defs {
		if x := d.Alts[0][0].Items[0]; x.Kind == api.TokName && !known(x.Text) {
			return x.Text, api.ErrGramName
		}
	}
	for _, d := range r.Defs {
		if x := d.Alts[0][0].Items[0]; x.Lo > x.Hi {
			return d.Name, api.ErrGramRange
		}
	}
	for _, d := range r.Defs {
		x := d.Alts[0][0].Items[0]
		if d.Name == "start" || d.Name == "" || x.Hi > 255 || x.Kind == 7 {
			return "", api.ErrGramMany
		}
	}
	return "", api.OK
}

// roomy is a raw whose lists all have spare room, filled with a mark.
func roomy(mark string) api.Raw {
	item := api.RawItem{Kind: 99, Text: mark, Lo: 9, Hi: 8}
	items := append(make([]api.RawItem, 0, 4), name("S"), text("xy"), item)[:2]
	conjuncts := append(make([]api.RawConj, 0, 4), api.RawConj{Items: items}, isNot(item))[:1]
	alts := append(make([][]api.RawConj, 0, 4), conjuncts, alt(isNot(item)))[:1]
	defs := append(make([]api.RawDef, 0, 4), api.RawDef{Name: "S", Alts: alts}, def(mark))[:1]
	return api.Raw{Starts: append(make([]string, 0, 4), "S", mark)[:1], Defs: defs}
}

// whole tells a raw with the spare room of each list.
func whole(r api.Raw) string {
	defs := r.Defs[:cap(r.Defs)]
	alts := defs[0].Alts[:cap(defs[0].Alts)]
	conjuncts := alts[0][:cap(alts[0])]
	items := conjuncts[0].Items[:cap(conjuncts[0].Items)]
	return fmt.Sprint(r.Starts[:cap(r.Starts)], defs, alts, conjuncts, items)
}

// TestRawStaysAsItWas: R4: what is handed in is not changed, its spare room
// neither.
func TestRawStaysAsItWas(t *testing.T) {
	r := roomy("mark")
	before := whole(r)
	if _, _, e := gram.Build(r); e != api.OK {
		t.Fatalf("P4.2: Build(%v): %d", r, e)
	}
	if whole(r) != before {
		t.Errorf("R4: Build changed %s into %s", before, whole(r))
	}
	for range 3 {
		r.Defs = append(r.Defs, def("S"))
		before = whole(r)
		gram.Build(r)
		if whole(r) != before {
			t.Errorf("R4: a Build with an error changed %s into %s", before, whole(r))
		}
	}
}

func TestGrammarStaysAsItWas(t *testing.T) {
	g := plain()
	g.Names = append(make([]string, 0, 8), g.Names...)
	g.Rules = append(make([]api.Rule, 0, 8), g.Rules...)
	g.Rules[0].Conj = append(make([]api.Conjunct, 0, 8), g.Rules[0].Conj...)
	tell := func() string { return fmt.Sprint(g.Names[:8], g.Rules[:8], g.Rules[0].Conj[:8]) }
	before := tell()
	if !gram.May(g) || tell() != before {
		t.Errorf("R4: May changed %s into %s", before, tell())
	}
}

// scribble writes over all lists of g and all their spare room.
func scribble(g api.Grammar) {
	for i := range g.Rules {
		for j := range g.Rules[i].Conj {
			seq := g.Rules[i].Conj[j].Seq
			for k := range seq[:cap(seq)] {
				seq[:cap(seq)][k] = api.Symbol{Name: 77, Lo: 77, Hi: 77}
			}
		}
		conj := g.Rules[i].Conj
		for j := len(conj); j < cap(conj); j++ {
			conj[:cap(conj)][j] = rowNot(ref(77))
		}
	}
	for i := len(g.Rules); i < cap(g.Rules); i++ {
		g.Rules[:cap(g.Rules)][i] = rule(77)
	}
	for i := range g.Names[:cap(g.Names)] {
		g.Names[:cap(g.Names)][i] = "scribble"
	}
}

// TestAnswersShareNoMemory: R4: neither with what was handed in nor with
// another answer.
func TestAnswersShareNoMemory(t *testing.T) {
	r := roomy("mark")
	before := whole(r)
	first, _, _ := gram.Build(r)
	second, _, _ := gram.Build(r)
	kept := copyOf(second)
	scribble(first)
	if !reflect.DeepEqual(copyOf(second), kept) {
		t.Errorf("R4: two answers share memory: %v", second)
	}
	if whole(r) != before {
		t.Errorf("R4: an answer shares memory with what was handed in: %s", whole(r))
	}
	r.Starts[0] = "T"
	r.Defs[0].Alts[0][0].Items[0] = span(7, 8)
	r.Defs[0].Name = "T"
	if !reflect.DeepEqual(copyOf(second), kept) {
		t.Errorf("R4: an answer shares memory with what was handed in: %v", second)
	}
}

// TestListsOfOneAnswerShareNone: R4: each list is grown, and no other one
// changes.
func TestListsOfOneAnswerShareNone(t *testing.T) {
	const s = `start S; S = "abc" & "abc" | "abc" & ~ T T T | S; T = "abc" | "";`
	g, _, _ := gram.Build(raw(t, s))
	want := copyOf(g)
	for i := range g.Rules {
		for j := range g.Rules[i].Conj {
			_ = append(g.Rules[i].Conj[j].Seq, ref(77), ref(77), ref(77), ref(77))
			if seq := g.Rules[i].Conj[j].Seq; len(seq) > 0 {
				old := seq[0]
				seq[0] = ref(77)
				changed := copyOf(g)
				changed.Rules[i].Conj[j].Seq[0] = old
				if !reflect.DeepEqual(changed, want) {
					t.Errorf("R4: row %d of rule %d shares memory: %v", j, i, g)
				}
				seq[0] = old
			}
		}
		_ = append(g.Rules[i].Conj, rowNot(ref(77)), rowNot(ref(77)))
	}
	_ = append(g.Rules, rule(77), rule(77))
	_ = append(g.Names, "X", "X")
	if !reflect.DeepEqual(copyOf(g), want) {
		t.Errorf("R4: lists of one answer share memory: %v", g)
	}
}

// TestSharedRaw: lists of a raw that share memory make a grammar whose lists
// do not.
func TestSharedRaw(t *testing.T) {
	c := is(text("ab"))
	a := alt(c, c)
	g, _, e := gram.Build(from("S", def("S", a, a), def("T", a)))
	if e != api.OK {
		t.Fatalf("P4.2: %d", e)
	}
	g.Rules[0].Conj[0].Seq[0] = ref(1)
	for i, r := range g.Rules {
		for j, conj := range r.Conj {
			if (i > 0 || j > 0) && conj.Seq[0] != bytes('a', 'a') {
				t.Errorf("R4: row %d of rule %d shares memory", j, i)
			}
		}
	}
}

// TestNothingIsKept: R5: an answer hangs on the argument alone.
func TestNothingIsKept(t *testing.T) {
	good := raw(t, `start S; S = "a" T; T = S | "";`)
	want, _, _ := gram.Build(good)
	for _, s := range []string{`start T; T = "";`, `start S; S = X;`, `S = S;`, `start S; S = S; S = T;`} {
		gram.Build(raw(t, s))
		if got, _, e := gram.Build(good); e != api.OK || !reflect.DeepEqual(copyOf(got), copyOf(want)) {
			t.Errorf("R5: behind %q: %v, %d", s, got, e)
		}
	}
}

func TestSeveralGoroutines(t *testing.T) {
	good := raw(t, `start S; S = "a" T & ~T | 'a'..'z'; T = S | "";`)
	bad := raw(t, `start S; S = "a" T; T = S | X;`)
	want, _, _ := gram.Build(good)
	var group sync.WaitGroup
	for range 8 {
		group.Go(func() {
			for range 100 {
				if got, _, e := gram.Build(good); e != api.OK || !reflect.DeepEqual(copyOf(got), copyOf(want)) || !gram.May(want) {
					t.Errorf("R5: %v, %d", got, e)
				}
				if _, who, e := gram.Build(bad); who != "X" || e != api.ErrGramName {
					t.Errorf("R5: %q, %d", who, e)
				}
			}
		})
	}
	group.Wait()
}

// TestGreatRaws: what is far too much is refused in a time and in memory that
// its size explains.
func TestGreatRaws(t *testing.T) {
	const much = 1 << 20
	long := text(strings.Repeat("x", much))
	wantFault(t, from("S", def("S", alt(is(long)))), "", api.ErrGramMany)
	wantFault(t, from("S", def("S", alt(is(repeat(long, 10000)...)))), "", api.ErrGramMany)
	wantFault(t, from("S", def("S", alt(is(repeat(name("S"), much)...)))), "", api.ErrGramMany)
	wantGrammar(t, from("S", def("S", alt(is(repeat(text(""), much)...)))), api.Grammar{Names: []string{"S"}, Rules: []api.Rule{rule(0, row())}})
	wantFault(t, from("S", def("S", alt(repeat(is(), much)...))), "", api.ErrGramMany)
	wantFault(t, from("S", def("S", repeat(alt(is()), much)...)), "", api.ErrGramMany)
	wantFault(t, manyNames(100000), "", api.ErrGramMany)
	wantFault(t, api.Raw{Starts: repeat("S", much)}, "", api.ErrGramStart)
	wantMay(t, "long names", called(strings.Repeat(";", api.MaxText), strings.Repeat("n", much)), false)
	wantMay(t, "many names", called(repeat("S", much)...), false)
	wantMay(t, "many rules", headed(1, repeat(0, much)...), false)
	wantMay(t, "many symbols", having(repeat(ref(0), much)...), false)
}
