package show_test

import (
	"fmt"
	"reflect"
	"strconv"
	"strings"
	"sync"
	"testing"

	"temple/api"
	"temple/gram"
	"temple/note"
	"temple/samples"
	"temple/show"
)

var (
	ref, span   = samples.Ref, samples.Span
	row, rowNot = samples.Row, samples.RowNot
	rule        = samples.Rule
)

// one is the symbols of a text's bytes.
func one(s string) []api.Symbol {
	var out []api.Symbol
	for _, c := range []byte(s) {
		out = append(out, span(int(c), int(c)))
	}
	return out
}

// rows is the symbols of several rows, one behind the other.
func rows(all ...[]api.Symbol) []api.Symbol {
	var out []api.Symbol
	for _, row := range all {
		out = append(out, row...)
	}
	return out
}

// having is a grammar of the names S and T, with one row of symbols in S.
func having(symbols ...api.Symbol) api.Grammar {
	return api.Grammar{Names: []string{"S", "T"}, Rules: []api.Rule{rule(0, row(symbols...)), rule(1, row())}}
}

// plain is a grammar that may be; each test changes one part.
func plain() api.Grammar {
	return api.Grammar{
		Start: 1,
		Names: []string{"S", "T"},
		Rules: []api.Rule{
			rule(0, row(ref(1), span('a', 'z'), span('x', 'x')), rowNot(ref(0))),
			rule(0, row()),
			rule(1, rowNot(span(0, 255))),
		},
	}
}

// repeat is a list of n times the same.
func repeat[T any](x T, n int) []T {
	var out []T
	for range n {
		out = append(out, x)
	}
	return out
}

// copyOf is g in new memory, with nil in place of each empty list.
func copyOf(g api.Grammar) api.Grammar {
	out := api.Grammar{Start: g.Start, Names: append([]string(nil), g.Names...)}
	for _, r := range g.Rules {
		c := api.Rule{Head: r.Head}
		for _, conj := range r.Conj {
			c.Conj = append(c.Conj, api.Conjunct{Neg: conj.Neg, Seq: append([]api.Symbol(nil), conj.Seq...)})
		}
		out.Rules = append(out.Rules, c)
	}
	return out
}

// brief tells the beginning of something that may be long.
func brief(x any) string {
	return fmt.Sprintf("%.200s", fmt.Sprint(x))
}

// shown is the text of a grammar that may be.
func shown(t *testing.T, g api.Grammar) string {
	t.Helper()
	s, e := show.Show(g)
	if e != api.OK {
		t.Fatalf("P5.1: Show(%s): %d", brief(g), e)
	}
	return s
}

// wantText holds the text of g against what it must be.
func wantText(t *testing.T, g api.Grammar, want string) {
	t.Helper()
	if got, e := show.Show(g); got != want || e != api.OK {
		t.Errorf("P5.1: Show(%s) = %.200q, %d, not %.200q", brief(g), got, e, want)
	}
}

// wantRow holds how a row of symbols is written, alone, negated, and between
// others.
func wantRow(t *testing.T, symbols []api.Symbol, want string) {
	t.Helper()
	g := having(symbols...)
	wantText(t, g, "start S;\nS = "+want+";\nT = \"\";\n")
	wantBack(t, g)
	g.Rules[0].Conj[0].Neg = true
	wantText(t, g, "start S;\nS = ~"+want+";\nT = \"\";\n")
	wantBack(t, g)
	g.Rules[0].Conj = []api.Conjunct{row(one("l")...), row(symbols...), row(one("r")...)}
	wantText(t, g, "start S;\nS = \"l\" & "+want+" & \"r\";\nT = \"\";\n")
	wantBack(t, g)
}

// wantNone: P5.1: a grammar that may not be has no text.
func wantNone(t *testing.T, what string, g api.Grammar) {
	t.Helper()
	if got, e := show.Show(g); got != "" || e != api.ErrShowForm {
		t.Errorf("P5.1: %s: Show(%s) = %.200q, %d", what, brief(g), got, e)
	}
}

// wantBack: P5.2: layers 3 and 4 make the same grammar of the text.
func wantBack(t *testing.T, g api.Grammar) {
	t.Helper()
	s := shown(t, g)
	raw, at, e := note.Parse(s)
	if e != api.OK {
		t.Fatalf("P5.2: Parse(%.200q): %d at %d", s, e, at)
	}
	back, who, e := gram.Build(raw)
	if e != api.OK || !reflect.DeepEqual(copyOf(back), copyOf(g)) {
		t.Fatalf("P5.2: Build of %.200q = %s, %q, %d, not %s", s, brief(back), who, e, brief(g))
	}
}

func TestWholeText(t *testing.T) {
	wantText(t, plain(), "start T;\nS = T 'a'..'z' \"x\" & ~S | \"\";\nT = ~'\\x00'..'\\xff';\n")
	wantText(t, api.Grammar{Names: []string{"S"}, Rules: []api.Rule{rule(0, row())}}, "start S;\nS = \"\";\n")
	wantText(t, api.Grammar{Names: []string{"_"}, Rules: []api.Rule{rule(0, row(ref(0)))}}, "start _;\n_ = _;\n")
}

func TestStart(t *testing.T) {
	g := api.Grammar{Names: []string{"long_Name9", "b", "A"}}
	for i := range g.Names {
		g.Rules = append(g.Rules, rule(i, row()))
	}
	const rest = "long_Name9 = \"\";\nb = \"\";\nA = \"\";\n"
	for i, start := range []string{"long_Name9", "b", "A"} {
		g.Start = i
		wantText(t, g, "start "+start+";\n"+rest)
	}
}

func TestNamesInTheirRow(t *testing.T) {
	g := api.Grammar{Start: 3}
	want := "start n37;\n"
	for i := range api.MaxNames {
		called := "n" + strconv.Itoa((i*7+16)%api.MaxNames)
		g.Names = append(g.Names, called)
		g.Rules = append(g.Rules, rule(i, row(ref(i))))
		want += called + " = " + called + ";\n"
	}
	wantText(t, g, want)
	wantBack(t, g)
}

func TestRulesInTheirRow(t *testing.T) {
	g := having(one("c")...)
	g.Rules = []api.Rule{
		rule(0, row(one("c")...)),
		rule(0, row(one("a")...)),
		rule(0, row(one("a")...)),
		rule(0, row()),
		rule(1, row(one("b")...)),
		rule(1, row(ref(0))),
	}
	wantText(t, g, "start S;\nS = \"c\" | \"a\" | \"a\" | \"\";\nT = \"b\" | S;\n")
	g.Rules = []api.Rule{rule(0, row()), rule(1, row(one("x")...)), rule(1, row()), rule(1, row(one("y")...))}
	wantText(t, g, "start S;\nS = \"\";\nT = \"x\" | \"\" | \"y\";\n")
}

func TestConjuncts(t *testing.T) {
	g := having()
	g.Rules[0].Conj = []api.Conjunct{row(one("b")...), rowNot(one("a")...), rowNot(), row(), rowNot(ref(1), ref(0)), rowNot(span('a', 'b')), row(ref(1))}
	wantText(t, g, "start S;\nS = \"b\" & ~\"a\" & ~\"\" & \"\" & ~T S & ~'a'..'b' & T;\nT = \"\";\n")
	g.Rules = []api.Rule{rule(0, rowNot(), row()), rule(0, row(), rowNot()), rule(1, rowNot(), rowNot())}
	wantText(t, g, "start S;\nS = ~\"\" & \"\" | \"\" & ~\"\";\nT = ~\"\" & ~\"\";\n")
}

func TestParts(t *testing.T) {
	a, az := one("a"), []api.Symbol{span('a', 'z')}
	s, u := []api.Symbol{ref(0)}, []api.Symbol{ref(1)}
	for _, c := range []struct {
		symbols []api.Symbol
		want    string
	}{
		{nil, `""`},
		{[]api.Symbol{}, `""`},
		{a, `"a"`},
		{rows(a, a, a), `"aaa"`},
		{one("cab"), `"cab"`},
		{az, `'a'..'z'`},
		{rows(az, az), `'a'..'z' 'a'..'z'`},
		{s, `S`},
		{rows(s, u, s), `S T S`},
		{rows(one("ab"), az, one("cd")), `"ab" 'a'..'z' "cd"`},
		{rows(one("ab"), s, one("cd")), `"ab" S "cd"`},
		{rows(az, a, az), `'a'..'z' "a" 'a'..'z'`},
		{rows(u, one("ab"), u), `T "ab" T`},
		{rows(s, az, u), `S 'a'..'z' T`},
		{rows(az, u, az, one("x y")), `'a'..'z' T 'a'..'z' "x y"`},
		{rows(one("ab"), []api.Symbol{span('c', 'd')}, one("e"), []api.Symbol{span('f', 'f')}, one("g")), `"ab" 'c'..'d' "efg"`},
		{one("S T"), `"S T"`},
		{one("~|&;=#.."), `"~|&;=#.."`},
		{one(strings.Repeat("x", api.MaxSeq)), `"` + strings.Repeat("x", api.MaxSeq) + `"`},
		{repeat(ref(1), api.MaxSeq), strings.Repeat("T ", api.MaxSeq-1) + "T"},
		{repeat(span(1, 2), api.MaxSeq), strings.Repeat(`'\x01'..'\x02' `, api.MaxSeq-1) + `'\x01'..'\x02'`},
	} {
		wantRow(t, c.symbols, c.want)
	}
}

func TestQuotes(t *testing.T) {
	wantRow(t, one(`"`), `"\""`)
	wantRow(t, one(`\`), `"\\"`)
	wantRow(t, one(`'`), `"'"`)
	wantRow(t, one(`'"\'"\`), `"'\"\\'\"\\"`)
	wantRow(t, one(`\x00`), `"\\x00"`)
	wantRow(t, []api.Symbol{span('"', '\'')}, `'"'..'\''`)
	wantRow(t, []api.Symbol{span('\'', '\\')}, `'\''..'\\'`)
	wantRow(t, []api.Symbol{span('\\', ']')}, `'\\'..']'`)
	wantRow(t, []api.Symbol{span('!', '"')}, `'!'..'"'`)
}

// written is how one byte stands within quotes, the chapter's sentence said
// once more.
func written(c int, quote string) string {
	s := string([]byte{byte(c)})
	switch {
	case c < 32 || c > 126:
		return fmt.Sprintf(`\x%02x`, c)
	case s == quote || s == `\`:
		return `\` + s
	}
	return s
}

func TestEachByteOfTexts(t *testing.T) {
	for c := range 256 {
		in := written(c, `"`)
		wantRow(t, []api.Symbol{span(c, c)}, `"`+in+`"`)
		wantRow(t, rows(one("0"), []api.Symbol{span(c, c)}, one("f")), `"0`+in+`f"`)
	}
	for _, c := range []struct {
		c    int
		want string
	}{
		{0, `"\x00"`}, {9, `"\x09"`}, {10, `"\x0a"`}, {31, `"\x1f"`}, {32, `" "`}, {33, `"!"`},
		{125, `"}"`}, {126, `"~"`}, {127, `"\x7f"`}, {128, `"\x80"`}, {171, `"\xab"`}, {255, `"\xff"`},
	} {
		wantRow(t, []api.Symbol{span(c.c, c.c)}, c.want)
	}
}

// TestBytesSideBySide: no byte changes how its neighbour is read.
func TestBytesSideBySide(t *testing.T) {
	for c := range 256 {
		for d := range 256 {
			g := having(span(c, c), span(d, d))
			wantText(t, g, "start S;\nS = \""+written(c, `"`)+written(d, `"`)+"\";\nT = \"\";\n")
			wantBack(t, g)
		}
	}
}

func TestEachByteOfRanges(t *testing.T) {
	for lo := range 256 {
		for hi := lo + 1; hi < 256; hi++ {
			g := having(span(lo, hi))
			wantText(t, g, "start S;\nS = '"+written(lo, `'`)+"'..'"+written(hi, `'`)+"';\nT = \"\";\n")
			wantBack(t, g)
		}
	}
	wantRow(t, []api.Symbol{span(0, 255)}, `'\x00'..'\xff'`)
	wantRow(t, []api.Symbol{span(31, 32)}, `'\x1f'..' '`)
	wantRow(t, []api.Symbol{span(126, 127)}, `'~'..'\x7f'`)
}

// TestWhatMayNotBe: each grammar that breaks a condition of chapter 4 has
// ErrShowForm for it.
func TestWhatMayNotBe(t *testing.T) {
	for _, c := range samples.MayNotBe() {
		wantNone(t, c.What, c.Grammar)
	}
	wantBack(t, samples.Plain())
}

// TestWhatMayJustBe: grammars at the limits, among them those of the longest
// texts, are shown and read again.
func TestWhatMayJustBe(t *testing.T) {
	called := func(i int) string { return fmt.Sprintf("%0*d", api.MaxName, i) }
	for _, seq := range [][]api.Symbol{
		repeat(ref(api.MaxNames-1), 4),
		repeat(span(0, 255), 4),
		repeat(span(0, 0), 4),
		{ref(1), span(0, 0), span(0, 255), span(255, 255)},
	} {
		g := api.Grammar{Start: api.MaxNames - 1}
		for i := range api.MaxRules {
			head := i * api.MaxNames / api.MaxRules
			if len(g.Names) == head {
				g.Names = append(g.Names, "n"+called(head)[1:])
			}
			r := rule(head, repeat(rowNot(), api.MaxConj)...)
			for j, s := range seq {
				r.Conj[j].Seq = []api.Symbol{s}
			}
			g.Rules = append(g.Rules, r)
		}
		wantBack(t, g)
		wantText(t, g, plainText(g))
		g.Rules[0].Conj[5].Seq = []api.Symbol{ref(0)}
		wantNone(t, "one symbol too many", g)
	}
	g := having(repeat(ref(0), api.MaxSeq)...)
	g.Rules[0].Conj = repeat(g.Rules[0].Conj[0], api.MaxConj)
	g.Rules = []api.Rule{g.Rules[0], g.Rules[0], g.Rules[1]}
	g.Names[0] = strings.Repeat("N", api.MaxName)
	wantBack(t, g)
	wantText(t, g, plainText(g))
}

// plainText is the chapter's sentence once more, said as plainly as can be.
func plainText(g api.Grammar) string {
	out := "start " + g.Names[g.Start] + ";\n"
	for i, called := range g.Names {
		var rules []string
		for _, r := range g.Rules {
			if r.Head != i {
				continue
			}
			var conjuncts []string
			for _, c := range r.Conj {
				not := map[bool]string{true: "~"}[c.Neg]
				conjuncts = append(conjuncts, not+strings.Join(plainParts(g.Names, c.Seq), " "))
			}
			rules = append(rules, strings.Join(conjuncts, " & "))
		}
		out += called + " = " + strings.Join(rules, " | ") + ";\n"
	}
	return out
}

// plainParts is the parts of a conjunct; a text ends where no byte follows.
func plainParts(names []string, seq []api.Symbol) []string {
	if len(seq) == 0 {
		return []string{`""`}
	}
	var out []string
	run := ""
	for i, s := range seq {
		if s.Name == -1 && s.Lo == s.Hi {
			run += written(s.Lo, `"`)
			if i+1 == len(seq) || seq[i+1].Name != -1 || seq[i+1].Lo != seq[i+1].Hi {
				out = append(out, `"`+run+`"`)
				run = ""
			}
			continue
		}
		if s.Name == -1 {
			out = append(out, `'`+written(s.Lo, `'`)+`'..'`+written(s.Hi, `'`)+`'`)
			continue
		}
		out = append(out, names[s.Name])
	}
	return out
}

// eachRow tells all rows of at most n of some symbols, each in memory of its
// own.
func eachRow(symbols []api.Symbol, n int, tell func(seq []api.Symbol)) {
	var grow func(begun []api.Symbol)
	grow = func(begun []api.Symbol) {
		tell(append([]api.Symbol(nil), begun...))
		if len(begun) == n {
			return
		}
		for _, s := range symbols {
			grow(append(append([]api.Symbol(nil), begun...), s))
		}
	}
	grow(nil)
}

// TestAllShortRows holds all short rows of symbols of all kinds against the
// chapter's sentence.
func TestAllShortRows(t *testing.T) {
	symbols := []api.Symbol{ref(0), ref(1), span('"', '"'), span('\'', '\''), span('\\', '\\'), span(0, 0), span('"', '\''), span('\\', 255)}
	eachRow(symbols, 4, func(seq []api.Symbol) {
		g := having(seq...)
		wantText(t, g, plainText(g))
		wantBack(t, g)
	})
}

// smallGrammars is all grammars of few names, rules, conjuncts and symbols.
func smallGrammars() []api.Grammar {
	var conjuncts []api.Conjunct
	eachRow([]api.Symbol{ref(0), span('a', 'a'), span('a', 'b')}, 1, func(seq []api.Symbol) {
		conjuncts = append(conjuncts, row(seq...), rowNot(seq...))
	})
	var bodies [][]api.Conjunct
	for _, c := range conjuncts {
		bodies = append(bodies, []api.Conjunct{c})
		for _, d := range conjuncts {
			bodies = append(bodies, []api.Conjunct{c, d})
		}
	}
	var out []api.Grammar
	add := func(start int, names []string, rules ...api.Rule) {
		out = append(out, api.Grammar{Start: start, Names: names, Rules: rules})
	}
	for _, b := range bodies {
		add(0, []string{"A"}, rule(0, b...))
		add(0, []string{"b"}, rule(0, b...))
		for _, c := range bodies {
			add(0, []string{"A"}, rule(0, b...), rule(0, c...))
			add(0, []string{"A", "b"}, rule(0, b...), rule(1, c...))
			add(1, []string{"A", "b"}, rule(0, b...), rule(1, c...))
			add(0, []string{"b", "A"}, rule(0, b...), rule(1, c...))
		}
	}
	return out
}

// TestAllSmallGrammars: each has its text, is made of it again, and no two of
// them have the same one.
func TestAllSmallGrammars(t *testing.T) {
	seen := map[string]int{}
	all := smallGrammars()
	for i, g := range all {
		wantText(t, g, plainText(g))
		wantBack(t, g)
		s := shown(t, g)
		if first, ok := seen[s]; ok {
			t.Fatalf("P5.2: %v and %v are both %q", all[first], g, s)
		}
		seen[s] = i
	}
}

// numbers is a row of numbers that looks like chance and is always the same.
type numbers uint64

func (r *numbers) next(n int) int {
	*r = *r*6364136223846793005 + 1442695040888963407
	return int(uint64(*r) >> 33 % uint64(n))
}

func (r *numbers) symbol(names int) api.Symbol {
	switch r.next(4) {
	case 0:
		return ref(r.next(names))
	case 1:
		lo := r.next(256)
		return span(lo, lo+r.next(256-lo))
	}
	c := r.next(256)
	return span(c, c)
}

// grammar is one that may be, of any size within the limits.
func (r *numbers) grammar() api.Grammar {
	names := 1 + r.next(8)
	g := api.Grammar{Start: r.next(names)}
	for i := range names {
		g.Names = append(g.Names, string([]byte{"aZ_"[r.next(3)], byte('0' + i)})+strings.Repeat("x", r.next(31)))
		for range 1 + r.next(3) {
			x := rule(i)
			for range 1 + r.next(4) {
				c := api.Conjunct{Neg: r.next(2) == 0}
				for range r.next(10) {
					c.Seq = append(c.Seq, r.symbol(names))
				}
				x.Conj = append(x.Conj, c)
			}
			g.Rules = append(g.Rules, x)
		}
	}
	return g
}

func TestMixedGrammars(t *testing.T) {
	r := numbers(5)
	for range 3000 {
		g := r.grammar()
		wantText(t, g, plainText(g))
		wantBack(t, g)
	}
}

// TestEmptyListsAreNone: a conjunct whose list is empty and one whose list is
// nil are the same.
func TestEmptyListsAreNone(t *testing.T) {
	g, h := having(), having()
	g.Rules[0].Conj[0].Seq, h.Rules[0].Conj[0].Seq = nil, []api.Symbol{}
	if shown(t, g) != shown(t, h) {
		t.Errorf("P5.1: %q, %q", shown(t, g), shown(t, h))
	}
}

// TestGrammarStaysAsItWas: R4: what is handed in is not changed, its spare
// room neither, and the text does not hang on it any more.
func TestGrammarStaysAsItWas(t *testing.T) {
	spoiled := plain()
	spoiled.Start = 2
	for _, g := range []api.Grammar{plain(), spoiled} {
		given := samples.Roomy(g)
		s, _ := show.Show(given)
		if !samples.Same(given, samples.Roomy(g)) {
			t.Errorf("R4: Show changed %v into %v", g, given)
		}
		given.Names[0], given.Names[1] = "X", "Y"
		given.Rules[0].Conj[0].Seq[0] = ref(0)
		if want, _ := show.Show(g); s != want {
			t.Errorf("R4: %q, not %q", s, want)
		}
	}
}

// TestSharedLists: lists of a grammar that share memory are written as if
// they did not.
func TestSharedLists(t *testing.T) {
	seq := rows(one("ab"), []api.Symbol{ref(0)}, one("c"))
	g := having()
	g.Rules[0].Conj = []api.Conjunct{{Seq: seq}, {Seq: seq[:1]}, {Neg: true, Seq: seq[1:]}, {Seq: seq}}
	wantText(t, g, "start S;\nS = \"ab\" S \"c\" & \"a\" & ~\"b\" S \"c\" & \"ab\" S \"c\";\nT = \"\";\n")
}

// TestNothingIsKept: R5: a text hangs on the grammar alone.
func TestNothingIsKept(t *testing.T) {
	want := shown(t, plain())
	for _, g := range []api.Grammar{{}, having(one("xyz")...), having(ref(9)), plain()} {
		show.Show(g)
		wantText(t, plain(), want)
	}
}

func TestSeveralGoroutines(t *testing.T) {
	g, want := plain(), shown(t, plain())
	bad := having(ref(9))
	var group sync.WaitGroup
	for range 8 {
		group.Go(func() {
			for range 100 {
				if s, e := show.Show(g); s != want || e != api.OK {
					t.Errorf("R5: %q, %d", s, e)
				}
				if s, e := show.Show(bad); s != "" || e != api.ErrShowForm {
					t.Errorf("R5: %q, %d", s, e)
				}
			}
		})
	}
	group.Wait()
}

// TestGreatGrammars: R1: what is far too much is refused in a time that its
// size explains.
func TestGreatGrammars(t *testing.T) {
	for _, c := range samples.Great() {
		wantNone(t, c.What, c.Grammar)
	}
}

// TestAnyNumbers: R1: no numbers make a panic; what may be is shown and read
// again, all else is refused.
func TestAnyNumbers(t *testing.T) {
	for _, g := range samples.AnyNumbers() {
		wantTold(t, g)
	}
}

// wantTold: a grammar has a text just if it may be.
func wantTold(t *testing.T, g api.Grammar) {
	t.Helper()
	if !gram.May(g) {
		wantNone(t, "may not be", g)
		return
	}
	wantText(t, g, plainText(g))
	wantBack(t, g)
}
