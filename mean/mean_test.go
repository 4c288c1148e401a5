package mean_test

import (
	"fmt"
	"math"
	"regexp"
	"slices"
	"strings"
	"sync"
	"testing"

	"temple/api"
	"temple/mean"
	"temple/samples"
	"temple/seqs"
	"temple/strata"
)

var (
	ref, span   = samples.Ref, samples.Span
	row, rowNot = samples.Row, samples.RowNot
	rule, named = samples.Rule, samples.Named
)

const mixed = samples.MixedText

// alt is the conjuncts of a rule.
func alt(conjuncts ...api.Conjunct) []api.Conjunct {
	return conjuncts
}

// at is a place.
func at(rule, conj, pos int) api.Place {
	return api.Place{Rule: rule, Conj: conj, Pos: pos}
}

// brief tells the beginning of something that may be long.
func brief(x any) string {
	return fmt.Sprintf("%.300s", fmt.Sprint(x))
}

// made is the table of a grammar and a text that have one.
func made(t *testing.T, g api.Grammar, w string) *mean.Table {
	t.Helper()
	x, e := mean.New(g, w)
	if x == nil || e != api.OK {
		t.Fatalf("P11.1: New(%s, %q) = %v, %d", brief(g), w, x, e)
	}
	return x
}

// wantNone: P11.1: there is no table, and none beside the error.
func wantNone(t *testing.T, what string, g api.Grammar, w string) {
	t.Helper()
	if x, e := mean.New(g, w); x != nil || e != api.ErrMeanForm {
		t.Errorf("P11.1: %s: New(%s, %s) = %v, %d", what, brief(g), brief(w), x, e)
	}
}

// wantHas: P11.1: a name has just those spans of a text whose bytes are wanted.
func wantHas(t *testing.T, g api.Grammar, w string, name int, wanted func(s string) bool) {
	t.Helper()
	x := made(t, g, w)
	eachSpan(w, func(i, j int) {
		if got, want := x.Has(name, i, j), wanted(w[i:j]); got != want || (x.Rank(name, i, j) > 0) != want {
			t.Fatalf("P11.1: %s, %q: Has(%d, %d, %d) = %v (of %q)", brief(g), w, name, i, j, got, w[i:j])
		}
	})
}

// wantRest: P11.1: a rest has just those spans of a text whose bytes are wanted.
func wantRest(t *testing.T, g api.Grammar, w string, p api.Place, wanted func(s string) bool) {
	t.Helper()
	x := made(t, g, w)
	eachSpan(w, func(i, j int) {
		if got, want := x.Rest(p, i, j), wanted(w[i:j]); got != want || (x.RestRank(p, i, j) > 0) != want {
			t.Fatalf("P11.1: %s, %q: Rest(%v, %d, %d) = %v (of %q)", brief(g), w, p, i, j, got, w[i:j])
		}
	})
}

// wantText: P11.1: the first name of a text's grammar has what is wanted: of a
// mixed text, of texts of one byte again and again, of no bytes.
func wantText(t *testing.T, text string, wanted func(s string) bool) {
	t.Helper()
	g := samples.Read(text)
	for _, w := range []string{mixed, strings.Repeat("a", 9), strings.Repeat("b", 9), "x", ""} {
		wantHas(t, g, w, 0, wanted)
	}
}

// like is the texts that are, from their beginning to their end, like a pattern.
func like(pattern string) func(s string) bool {
	return regexp.MustCompile(`^(?:` + pattern + `)$`).MatchString
}

// unlike is all other ones.
func unlike(pattern string) func(s string) bool {
	is := like(pattern)
	return func(s string) bool { return !is(s) }
}

func TestWhatMayNotBe(t *testing.T) {
	for _, s := range samples.MayNotBe() {
		wantNone(t, s.What, s.Grammar, "")
		wantNone(t, s.What, s.Grammar, "ab")
	}
	wantAgain(t, samples.Plain(), "axxabx")
}

func TestCycles(t *testing.T) {
	wantNone(t, "not itself", named(1, rule(0, rowNot(ref(0)))), "a")
	wantNone(t, "not itself, of no bytes", named(1, rule(0, rowNot(ref(0)))), "")
	wantNone(t, "not itself, beside a rule that holds", named(1, rule(0, row()), rule(0, rowNot(ref(0)))), "")
	wantNone(t, "over another name", named(2, rule(0, row(ref(1))), rule(1, rowNot(ref(0)))), "a")
	wantNone(t, "of names that nobody needs", named(3, rule(0, row()), rule(1, row(ref(2))), rule(2, rowNot(ref(1)))), "a")
	wantNone(t, "a text", samples.Read(`start S; S = "" | T & ~ "b"; T = "c" & ~ "d" S "e";`), "ab")
	// A cycle without a negation, and a negation without a cycle, are none.
	wantAgain(t, named(2, rule(0, row(ref(1))), rule(1, row(ref(0)))), "a")
	wantAgain(t, named(2, rule(0, rowNot(ref(1))), rule(1, row())), "a")
}

func TestLongTexts(t *testing.T) {
	for _, g := range []api.Grammar{samples.Plain(), named(1, rule(0, row())), samples.Read(`start S; S = "a" S | "";`)} {
		for _, n := range []int{0, 1, api.MaxInput - 1, api.MaxInput} {
			x := made(t, g, strings.Repeat("a", n))
			if !x.Has(0, n, n) || x.Has(0, n, n+1) || x.Has(0, n+1, n+1) {
				t.Errorf("P11.1: %d bytes: %v, %v, %v", n, x.Has(0, n, n), x.Has(0, n, n+1), x.Has(0, n+1, n+1))
			}
			wantAgain(t, g, strings.Repeat("a", n))
		}
		for _, n := range []int{api.MaxInput + 1, 63, 64, 65, 256, api.MaxText, 1 << 20} {
			wantNone(t, "too long", g, strings.Repeat("a", n))
		}
	}
	// What is longer as bytes than as runes counts by its bytes.
	made(t, samples.Plain(), strings.Repeat("é", api.MaxInput/2))
	wantNone(t, "too long in bytes", samples.Plain(), strings.Repeat("é", api.MaxInput/2)+"a")
	wantNone(t, "both", api.Grammar{}, strings.Repeat("a", api.MaxInput+1))
	wantNone(t, "both", named(1, rule(0, rowNot(ref(0)))), strings.Repeat("a", api.MaxInput+1))
}

func TestRestAtItsEnd(t *testing.T) {
	for _, c := range []struct {
		g   api.Grammar
		end api.Place
	}{
		{named(1, rule(0, row())), at(0, 0, 0)},
		{named(1, rule(0, rowNot())), at(0, 0, 0)},
		{samples.Read(`start S; S = "abc";`), at(0, 0, 3)},
		{samples.Read(`start S; S = "b" & ~ "a" T | "c"; T = T;`), at(0, 1, 2)},
		{samples.Read(`start S; S = "b" & ~ "a" T | "c"; T = T;`), at(2, 0, 1)},
	} {
		for _, w := range []string{mixed, "a", ""} {
			wantRest(t, c.g, w, c.end, like(``))
		}
	}
}

func TestRestAtARange(t *testing.T) {
	g := samples.Read(`start S; S = 'b'..'d' "x" 'a'..'z';`)
	w := "axabxacxzdxexabxxbbx"
	wantRest(t, g, w, at(0, 0, 0), like(`[b-d]x[a-z]`))
	wantRest(t, g, w, at(0, 0, 1), like(`x[a-z]`))
	wantRest(t, g, w, at(0, 0, 2), like(`[a-z]`))
	wantRest(t, g, w, at(0, 0, 3), like(``))
	wantHas(t, g, w, 0, like(`[b-d]x[a-z]`))
	// A negated conjunct's rests are what they would be in another one.
	g = samples.Read(`start S; S = ~ 'b'..'d' "x";`)
	wantRest(t, g, w, at(0, 0, 0), like(`[b-d]x`))
	wantHas(t, g, w, 0, unlike(`[b-d]x`))
}

// TestEachByte: a range has just the bytes from its one end to the other.
func TestEachByte(t *testing.T) {
	for _, ends := range [][2]int{{0, 0}, {0, 255}, {255, 255}, {'a', 'a'}, {'a', 'z'}, {127, 128}, {1, 254}} {
		g := named(1, rule(0, row(span(ends[0], ends[1]))))
		for c := range 256 {
			w := string([]byte{byte(c), byte(255 - c)})
			wantHas(t, g, w, 0, func(s string) bool {
				return len(s) == 1 && ends[0] <= int(s[0]) && int(s[0]) <= ends[1]
			})
		}
	}
}

func TestRestAtAName(t *testing.T) {
	g := samples.Read(`start S; S = T "c" T U; T = "a" | "ab" | ""; U = "b" U | "";`)
	wantRest(t, g, mixed, at(0, 0, 0), like(`(a|ab)?c(a|ab)?b*`))
	wantRest(t, g, mixed, at(0, 0, 1), like(`c(a|ab)?b*`))
	wantRest(t, g, mixed, at(0, 0, 2), like(`(a|ab)?b*`))
	wantRest(t, g, mixed, at(0, 0, 3), like(`b*`))
	wantRest(t, g, mixed, at(0, 0, 4), like(``))
	wantHas(t, g, mixed, 0, like(`(a|ab)?c(a|ab)?b*`))
	// A name may end where the rest begins at each point, from the first to the last.
	g = samples.Read(`start S; S = T U; T = 'a'..'c' T | "b"; U = "b" | U 'a'..'c';`)
	wantHas(t, g, mixed, 0, like(`[abc]*bb[abc]*`))
	g = samples.Read(`start S; S = T T; T = 'a'..'c' | "";`)
	wantHas(t, g, mixed, 0, like(`[abc]?[abc]?`))
	// A name that has nothing leaves nothing to the rest.
	g = samples.Read(`start S; S = "a" T "b" | "b"; T = T;`)
	wantRest(t, g, mixed, at(0, 0, 1), func(string) bool { return false })
	wantRest(t, g, mixed, at(0, 0, 2), like(`b`))
	wantHas(t, g, mixed, 0, like(`b`))
}

func TestSeveralConjuncts(t *testing.T) {
	wantText(t, `start S; S = A & B; A = 'a'..'c' A | "a"; B = "b" | B 'a'..'c';`, like(`b[abc]*a`))
	wantText(t, `start S; S = A & ~ "a"; A = "a" A | "";`, like(`|aaa*`))
	wantText(t, `start S; S = ~ "a" & A; A = "a" A | "";`, like(`|aaa*`))
	wantText(t, `start S; S = A & ~ "a" & ~ "" & ~ "aaaa"; A = "a" A | "";`, like(`aa|aaa|aaaaa+`))
	wantText(t, `start S; S = "a" & "b";`, func(string) bool { return false })
	wantText(t, `start S; S = "a" & ~ "a";`, func(string) bool { return false })
	wantText(t, `start S; S = "a" & "a";`, like(`a`))
}

func TestNegatedOnesAlone(t *testing.T) {
	wantText(t, `start S; S = ~ "";`, unlike(``))
	wantText(t, `start S; S = ~ "a";`, unlike(`a`))
	wantText(t, `start S; S = ~ "a" & ~ "b" & ~ "";`, unlike(`a|b|`))
	wantText(t, `start S; S = ~ T; T = T;`, func(string) bool { return true })
	wantText(t, `start S; S = ~ "" & ~ T; T = ~ "";`, func(string) bool { return false })
}

func TestSeveralRules(t *testing.T) {
	wantText(t, `start S; S = "a" | "bb" | "";`, like(`a|bb|`))
	wantText(t, `start S; S = "a" & "b" | "c" | "b" & "c";`, like(`c`))
	wantText(t, `start S; S = "a" | ~ "b" & A; A = 'a'..'b' A | "c";`, like(`a|[ab]*c`))
	wantText(t, `start S; S = ~ "a" | ~ "b";`, func(string) bool { return true })
	// Each name has its own rules, wherever they stand.
	g := named(3, rule(0, row(span('a', 'a'))), rule(1, row(span('b', 'b'))), rule(1, row()), rule(2, row(ref(0))), rule(2, row(span('c', 'c'))))
	wantHas(t, g, mixed, 0, like(`a`))
	wantHas(t, g, mixed, 1, like(`b|`))
	wantHas(t, g, mixed, 2, like(`a|c`))
}

func TestNamesThatNeedThemselves(t *testing.T) {
	wantText(t, `start S; S = "a" S | "";`, like(`a*`))
	wantText(t, `start S; S = S "a" | "b";`, like(`ba*`))
	wantText(t, `start S; S = S S | "a" | "b";`, like(`[ab]+`))
	wantText(t, `start S; S = S S | "a" | "";`, like(`a*`))
	wantText(t, `start S; S = S S S | "a";`, like(`a(aa)*`))
	wantText(t, `start S; S = S;`, func(string) bool { return false })
	wantText(t, `start S; S = S | "a" | S;`, like(`a`))
	wantText(t, `start S; S = S S;`, func(string) bool { return false })
	wantText(t, `start S; S = S & "a" | S S;`, func(string) bool { return false })
	// With the empty text ahead of them, or behind them.
	wantText(t, `start S; S = E S "a" | "b"; E = "" | "c";`, func(s string) bool {
		return like(`c*ba*`)(s) && strings.Count(s, "c") <= strings.Count(s, "a")
	})
	wantText(t, `start S; S = S E | "b"; E = "" | E E | "a";`, like(`ba*`))
	wantText(t, `start S; S = E S E | "b"; E = "" | "a";`, like(`a*ba*`))
}

func TestNamesThatNeedOneAnother(t *testing.T) {
	wantText(t, `start S; S = T; T = U; U = S | "a";`, like(`a`))
	wantText(t, `start S; S = T; T = U; U = S;`, func(string) bool { return false })
	wantText(t, `start S; S = "a" T | ""; T = "b" S;`, like(`(ab)*`))
	wantText(t, `start S; S = T S | "c"; T = S T | "";`, like(`c+`))
	wantText(t, `start S; S = T T; T = S | "a" | "";`, like(`a*`))
	wantText(t, `start S; S = T "a" & ~ "ba" | "b"; T = S;`, func(s string) bool { return s == "b" })
	wantText(t, `start S; S = T "a" & ~ "baa" | "b"; T = S;`, like(`b|ba`))
}

// TestLevels: what a name is not, and what that is not.
func TestLevels(t *testing.T) {
	wantText(t, `start S; S = ~ T; T = "a" T | "";`, unlike(`a*`))
	wantText(t, `start S; S = ~ T; T = ~ U; U = "a" U | "";`, like(`a*`))
	wantText(t, `start S; S = ~ T; T = ~ U; U = ~ V; V = "a" V | "";`, unlike(`a*`))
	wantText(t, `start S; S = "b" N; N = ~ T; T = "a" T | "";`, like(`b.*[^a].*`))
	wantText(t, `start S; S = N "b" N; N = ~ T; T = 'a'..'c' T | "c";`, like(`(.*[^c])?b(.*[^c])?`))
	wantText(t, `start S; S = A & ~ N; A = "a" A | ""; N = A "a" & ~ O; O = "aa" O | "a";`, like(`|a(aa)*`))
	// A ring at an upper level, and a name of level 0 that is told last.
	wantText(t, `start S; S = N T | ""; T = S; N = ~ M; M = L | L 'a'..'c' M | ""; L = "a" | "bb";`,
		rowOf(unlike(`((a|bb)[abc])*(a|bb)?`)))
}

// rowOf is the texts that are rows of pieces, of none or of more, none of them
// empty.
func rowOf(piece func(s string) bool) func(s string) bool {
	return func(s string) bool {
		// The ends of rows, each known from those ahead of it.
		is := make([]bool, len(s)+1)
		is[0] = true
		for end := 1; end <= len(s); end++ {
			for begin := range end {
				is[end] = is[end] || is[begin] && piece(s[begin:end])
			}
		}
		return is[len(s)]
	}
}

// TestManyLevels: each name is what the one behind it, or ahead of it, is not.
func TestManyLevels(t *testing.T) {
	down, up := named(api.MaxNames), named(api.MaxNames)
	for i := range api.MaxNames {
		down.Rules = append(down.Rules, rule(i, rowNot(ref(min(i+1, api.MaxNames-1)))))
		up.Rules = append(up.Rules, rule(i, rowNot(ref(max(i-1, 0)))))
	}
	ground := row(span('a', 'b'), span('c', 'c'))
	down.Rules[api.MaxNames-1].Conj[0], up.Rules[0].Conj[0] = ground, ground
	if levels, _, _ := strata.Strata(down); levels[0] != api.MaxNames-1 {
		t.Fatalf("levels %v", levels)
	}
	for i := range api.MaxNames {
		wanted := like(`[ab]c`)
		if i%2 == 1 {
			wanted = unlike(`[ab]c`)
		}
		wantHas(t, up, "bcacbbc", i, wanted)
		wantHas(t, down, "bcacbbc", api.MaxNames-1-i, wanted)
	}
	wantAgain(t, down, "bcac")
}

// TestRingsOfAllNames: a name has what the last one of a long row has, wherever
// its rule stands.
func TestRingsOfAllNames(t *testing.T) {
	for _, step := range []int{1, 5, api.MaxNames - 1} {
		g := named(api.MaxNames)
		for i := range api.MaxNames {
			g.Rules = append(g.Rules, rule(i, row(ref((i+step)%api.MaxNames))))
			if i == 20 {
				g.Rules = append(g.Rules, rule(i, row(ref(i), span('a', 'a'))), rule(i, row(span('b', 'b'))))
			}
		}
		for i := range api.MaxNames {
			wantHas(t, g, "abaabb", i, like(`ba*`))
		}
		wantAgain(t, g, "abaa")
	}
}

// TestKnownLanguages: grammars whose meaning is known otherwise.
func TestKnownLanguages(t *testing.T) {
	same := `start S; S = A D & B E; A = "a" A | ""; D = "b" D "c" | ""; B = "a" B "b" | ""; E = "c" E | "";`
	for _, w := range []string{mixed, "aaabbbcccaabbccabc", "aaaaabbbbbccccc"} {
		wantHas(t, samples.Read(same), w, 0, func(s string) bool {
			n := len(s) / 3
			return s == strings.Repeat("a", n)+strings.Repeat("b", n)+strings.Repeat("c", n)
		})
	}
	twice := samples.Read(`start S; S = C & D; C = X C X | "c"; X = "a" | "b";
		D = "a" A & "a" D | "b" B & "b" D | "c" E; A = X A X | "c" E "a"; B = X B X | "c" E "b"; E = X E | "";`)
	for _, w := range []string{mixed, "abbacabba", "abcabcab", "bacbacbbacba"} {
		wantHas(t, twice, w, 0, func(s string) bool {
			n := len(s) / 2
			return len(s)%2 == 1 && s[n] == 'c' && s[:n] == s[n+1:] && !strings.Contains(s[:n], "c")
		})
	}
	mirrored := samples.Read(`start S; S = ~ P; P = "a" P "a" | "b" P "b" | "c" P "c" | 'a'..'c' | "";`)
	wantHas(t, mirrored, mixed, 0, func(s string) bool {
		turned := []byte(s)
		slices.Reverse(turned)
		return s != string(turned)
	})
}

// TestPowers: four names have as many bytes as 1, 2, 3 and 6 times the powers of
// four, though there is but one byte.
func TestPowers(t *testing.T) {
	g := samples.Read(`start A; A = A C & B B | "a"; B = A A & B F | "aa"; C = A B & F F | "aaa"; F = A B & C C;`)
	for name, first := range []int{1, 2, 3, 6} {
		wantHas(t, g, strings.Repeat("a", api.MaxInput), name, func(s string) bool {
			n := len(s)
			for n > first && n%4 == 0 {
				n /= 4
			}
			return n == first
		})
	}
}

// TestStartSaysNothing: neither the start nor what names are called counts.
func TestStartSaysNothing(t *testing.T) {
	for start := range 2 {
		g := samples.Read(`start S; S = T "b"; T = "a" T | "";`)
		g.Start, g.Names = start, []string{"z", "y"}
		wantHas(t, g, mixed, 0, like(`a*b`))
		wantHas(t, g, mixed, 1, like(`a*`))
	}
}

// farOff is numbers that are none, of a row of so many: all that are near, and
// some that are not.
func farOff(n int) []int {
	out := []int{math.MinInt, -1 << 32, -257, -64, n + 32, n + 63, n + 64, n + 256, 1 << 32, math.MaxInt}
	for i := range 20 {
		out = append(out, -1-i, n+i)
	}
	return out
}

// wantNothing: P11.1, P11.2: neither a name nor a place has a span, as one of
// them, or the span, is none.
func wantNothing(t *testing.T, x *mean.Table, name int, p api.Place, i, j int) {
	t.Helper()
	if x.Has(name, i, j) || x.Rank(name, i, j) != 0 {
		t.Errorf("P11.1: %d, %d, %d: %v, %d", name, i, j, x.Has(name, i, j), x.Rank(name, i, j))
	}
	if x.Rest(p, i, j) || x.RestRank(p, i, j) != 0 {
		t.Errorf("P11.1: %v, %d, %d: %v, %d", p, i, j, x.Rest(p, i, j), x.RestRank(p, i, j))
	}
}

func TestWhatIsNone(t *testing.T) {
	// Its names have all spans, or all of no bytes.
	g := named(2,
		rule(0, rowNot(ref(1), span('x', 'x'))),
		rule(0, row(), row(ref(1)), row(ref(1))),
		rule(0, rowNot(span('x', 'x'))),
		rule(1, row(ref(1))),
		rule(1, row()))
	for _, w := range []string{"", "ab", strings.Repeat("a", api.MaxInput)} {
		x := made(t, g, w)
		for i := range len(w) + 1 {
			if !x.Has(0, i, len(w)) || !x.Has(1, i, i) || !x.Rest(at(1, 1, 1), i, i) {
				t.Fatalf("P11.1: %q: %d", w, i)
			}
			noNameOrPlace(t, x, i)
			noSpan(t, x, i, len(w))
		}
	}
}

// noNameOrPlace: there is nothing but the names and places of TestWhatIsNone.
func noNameOrPlace(t *testing.T, x *mean.Table, i int) {
	t.Helper()
	for _, off := range farOff(2) {
		wantNothing(t, x, off, at(1, 1, off), i, i)
		wantNothing(t, x, off, at(1, 2, off), i, i)
		wantNothing(t, x, off, at(3, 0, off), i, i)
	}
	for _, off := range farOff(1) {
		wantNothing(t, x, -1, at(1, 0, off), i, i)
		wantNothing(t, x, -1, at(0, off, 0), i, i)
		wantNothing(t, x, -1, at(4, off, 0), i, i)
	}
	for _, off := range farOff(3) {
		wantNothing(t, x, -1, at(1, off, 0), i, i)
		wantNothing(t, x, -1, at(0, 0, off), i, i)
	}
	for _, off := range farOff(5) {
		wantNothing(t, x, -1, at(off, 0, 0), i, i)
	}
}

// noSpan: there are no spans of a text of so many bytes but those within it.
func noSpan(t *testing.T, x *mean.Table, i, length int) {
	t.Helper()
	places := []api.Place{at(0, 0, 0), at(0, 0, 2), at(1, 0, 0), at(1, 1, 1), at(4, 0, 0)}
	for name := range 2 {
		for _, p := range places {
			for j := range i {
				wantNothing(t, x, name, p, i, j)
			}
			for _, off := range farOff(length + 1) {
				wantNothing(t, x, name, p, i, off)
				wantNothing(t, x, name, p, off, i)
				wantNothing(t, x, name, p, off, off)
			}
		}
	}
}

// TestNoTable: R3: of no table, and of one that New did not make, nothing is
// told.
func TestNoTable(t *testing.T) {
	for _, x := range []*mean.Table{nil, {}} {
		for _, i := range append(farOff(1), 0) {
			for _, j := range append(farOff(1), 0) {
				wantNothing(t, x, 0, at(0, 0, 0), i, j)
				wantNothing(t, x, i, at(i, j, i), 0, 0)
			}
		}
	}
}

// ranked is a name, or a rest, and its rank of each text; 0, if it has it not.
type ranked struct {
	name  int
	rest  *api.Place
	ranks map[string]int
}

func byName(name int, ranks map[string]int) ranked {
	return ranked{name: name, ranks: ranks}
}

func byPlace(p api.Place, ranks map[string]int) ranked {
	return ranked{rest: &p, ranks: ranks}
}

// of is the rank that a table tells of a span.
func (r ranked) of(x *mean.Table, i, j int) int {
	if r.rest != nil {
		return x.RestRank(*r.rest, i, j)
	}
	return x.Rank(r.name, i, j)
}

// wantRanks: P11.2: the ranks of all spans of a text.
func wantRanks(t *testing.T, text string, w string, all ...ranked) {
	t.Helper()
	x := wantAgain(t, samples.Read(text), w)
	for _, r := range all {
		eachSpan(w, func(i, j int) {
			if got, want := r.of(x, i, j), r.ranks[w[i:j]]; got != want {
				t.Errorf("P11.2: %s, %q: name %d, rest %v: %d, not %d", text, w[i:j], r.name, r.rest, got, want)
			}
		})
	}
}

func TestRanksOfRests(t *testing.T) {
	wantRanks(t, `start S; S = "";`, "ab", byPlace(at(0, 0, 0), map[string]int{"": 1}), byName(0, map[string]int{"": 2}))
	wantRanks(t, `start S; S = "abc";`, "abcab",
		byPlace(at(0, 0, 3), map[string]int{"": 1}),
		byPlace(at(0, 0, 2), map[string]int{"c": 2}),
		byPlace(at(0, 0, 1), map[string]int{"bc": 3}),
		byPlace(at(0, 0, 0), map[string]int{"abc": 4}),
		byName(0, map[string]int{"abc": 5}))
	// The rest behind the name has the greater rank, then the name.
	wantRanks(t, `start S; S = T U; T = "a"; U = "bbb";`, "cabbbb",
		byName(1, map[string]int{"a": 3}),
		byName(2, map[string]int{"bbb": 5}),
		byPlace(at(0, 0, 1), map[string]int{"bbb": 6}),
		byPlace(at(0, 0, 0), map[string]int{"abbb": 7}),
		byName(0, map[string]int{"abbb": 8}))
	wantRanks(t, `start S; S = U T; T = "a"; U = "bbb";`, "cbbbaa",
		byPlace(at(0, 0, 1), map[string]int{"a": 4}),
		byPlace(at(0, 0, 0), map[string]int{"bbba": 6}),
		byName(0, map[string]int{"bbba": 7}))
	// A negated conjunct's rests have ranks like others.
	wantRanks(t, `start S; S = ~ "a" T; T = "b";`, "ab",
		byPlace(at(0, 0, 2), map[string]int{"": 1}),
		byPlace(at(0, 0, 1), map[string]int{"b": 4}),
		byPlace(at(0, 0, 0), map[string]int{"ab": 5}))
}

// TestRankOfTheLeastSplit: of all points where the name may end the one counts
// where the greater of both ranks is least.
func TestRankOfTheLeastSplit(t *testing.T) {
	// A has of n bytes the rank 2 + 3 n, its rest one more: best is the middle,
	// or, if there is none, what is somewhat behind it.
	wantRanks(t, `start S; S = A A; A = "a" A | "";`, "aaaa",
		byName(1, map[string]int{"": 2, "a": 5, "aa": 8, "aaa": 11, "aaaa": 14}),
		byPlace(at(0, 0, 1), map[string]int{"": 3, "a": 6, "aa": 9, "aaa": 12, "aaaa": 15}),
		byPlace(at(0, 0, 0), map[string]int{"": 4, "a": 6, "aa": 7, "aaa": 9, "aaaa": 10}),
		byName(0, map[string]int{"": 5, "a": 7, "aa": 8, "aaa": 10, "aaaa": 11}))
	// X, at the end of a part, makes its rank higher: without it is best at the
	// first point, at the last one, at the one between them.
	wantRanks(t, `start S; S = T U; T = "" | "a" X | "aa" X; U = "aa" | "a" X | X; X = Y; Y = Z; Z = "";`, "aa",
		byName(1, map[string]int{"": 2, "a": 9, "aa": 10}),
		byPlace(at(0, 0, 1), map[string]int{"": 9, "a": 10, "aa": 5}),
		byPlace(at(0, 0, 0), map[string]int{"": 10, "a": 10, "aa": 6}))
	wantRanks(t, `start S; S = T U; T = X | "a" X | "aa"; U = "aa" X | "a" X | ""; X = Y; Y = Z; Z = "";`, "aa",
		byName(1, map[string]int{"": 8, "a": 9, "aa": 4}),
		byPlace(at(0, 0, 1), map[string]int{"": 3, "a": 10, "aa": 11}),
		byPlace(at(0, 0, 0), map[string]int{"": 9, "a": 10, "aa": 5}))
	wantRanks(t, `start S; S = T U; T = X | "a" | "aa" X; U = "aa" X | "a" | X; X = Y; Y = Z; Z = "";`, "aa",
		byName(1, map[string]int{"": 8, "a": 3, "aa": 10}),
		byPlace(at(0, 0, 1), map[string]int{"": 9, "a": 4, "aa": 11}),
		byPlace(at(0, 0, 0), map[string]int{"": 10, "a": 9, "aa": 5}))
}

func TestRanksOfNames(t *testing.T) {
	// The least over the rules, whichever stands first.
	wantRanks(t, `start S; S = "a" | T; T = "a" | "b";`, "ab", byName(0, map[string]int{"a": 3, "b": 5}))
	wantRanks(t, `start S; S = T | "a"; T = "a" | "b";`, "ab", byName(0, map[string]int{"a": 3, "b": 5}))
	// The greatest of a rule's conjuncts, wherever it stands.
	wantRanks(t, `start S; S = "a" & T; T = "a";`, "ab", byName(0, map[string]int{"a": 5}))
	wantRanks(t, `start S; S = T & "a"; T = "a";`, "ab", byName(0, map[string]int{"a": 5}))
	wantRanks(t, `start S; S = U & T & "a" | U; T = "a"; U = T;`, "ab", byName(0, map[string]int{"a": 7}))
	wantRanks(t, `start S; S = U & T | T & "a"; T = "a"; U = T;`, "ab", byName(0, map[string]int{"a": 5}))
	// A rule that does not hold counts for nothing, though conjuncts of it do.
	wantRanks(t, `start S; S = "a" & ~ T | U & "a" | "a" & "b"; T = "a"; U = T;`, "ab", byName(0, map[string]int{"a": 7}))
}

// TestRanksOfNegation: what is negated adds nothing to a rank; 1, if nothing
// else stands there.
func TestRanksOfNegation(t *testing.T) {
	wantRanks(t, `start S; S = ~ "a";`, "ab", byName(0, map[string]int{"": 1, "b": 1, "ab": 1}))
	wantRanks(t, `start S; S = ~ "a" & ~ T; T = U "b"; U = "a" | "";`, "ab", byName(0, map[string]int{"": 1}))
	wantRanks(t, `start S; S = "b" & ~ T; T = "aaaaaaa" | U; U = "a";`, "ab", byName(0, map[string]int{"b": 3}))
	wantRanks(t, `start S; S = ~ T & "b" | "a"; T = U; U = "a";`, "ab", byName(0, map[string]int{"a": 3, "b": 3}))
	wantRanks(t, `start S; S = "b" | ~ "a" | "a";`, "ab", byName(0, map[string]int{"": 1, "b": 1, "ab": 1, "a": 3}))
	// Two levels up, a rank is still that of what stands there itself.
	wantRanks(t, `start S; S = ~ T; T = ~ U; U = V; V = "a";`, "ab",
		byName(0, map[string]int{"a": 1}), byName(1, map[string]int{"": 1, "b": 1, "ab": 1}), byName(2, map[string]int{"a": 5}))
	// A name above leans on ranks of names of lower levels, too.
	wantRanks(t, `start S; S = N "b" & V; N = ~ "b"; V = W; W = "ab";`, "ab",
		byPlace(at(0, 0, 0), map[string]int{"b": 3, "ab": 3}), byName(0, map[string]int{"ab": 8}))
}

// TestHighRanks: rings that all names take part in for each byte have ranks as
// high as the sizes allow, told in a time that these explain.
func TestHighRanks(t *testing.T) {
	const last = api.MaxNames - 1
	a, w := span('a', 'a'), strings.Repeat("a", api.MaxInput)
	plain := named(api.MaxNames)
	for i := range last {
		plain.Rules = append(plain.Rules, rule(i, row(ref(i+1))))
	}
	plain.Rules = append(plain.Rules, rule(last, row(a, ref(0))), rule(last, row()))
	x := made(t, plain, w)
	for n := range len(w) + 1 {
		if got, want := x.Rank(0, 0, n), 2+2*last+n*(3+2*last); got != want {
			t.Errorf("P11.2: %d bytes: %d, not %d", n, got, want)
		}
	}
	// Rows of names that have the empty text make it higher still.
	const pad = api.MaxSymbols/api.MaxNames - 1
	long := named(api.MaxNames)
	for i := range last - 1 {
		long.Rules = append(long.Rules, rule(i, row(append(slices.Repeat([]api.Symbol{ref(last)}, pad), ref(i+1))...)))
	}
	long.Rules = append(long.Rules, rule(last-1, row(a, ref(0))), rule(last-1, row()), rule(last, row()))
	x = made(t, long, w)
	for n := range len(w) + 1 {
		if got, want := x.Rank(0, 0, n), 2+(last-1)*(pad+2)+n*(3+(last-1)*(pad+2)); got != want {
			t.Errorf("P11.2: %d bytes: %d, not %d", n, got, want)
		}
	}
	wantAgain(t, long, w[:3])
}

// told is all that a table answers of a grammar's names and places.
func told(x *mean.Table, g api.Grammar, w string) string {
	var out strings.Builder
	places, _ := seqs.Places(g)
	eachSpan(w, func(i, j int) {
		for n := range g.Names {
			fmt.Fprint(&out, x.Has(n, i, j), x.Rank(n, i, j), " ")
		}
		for _, p := range places {
			fmt.Fprint(&out, x.Rest(p, i, j), x.RestRank(p, i, j), " ")
		}
	})
	return out.String()
}

// TestGrammarStaysAsItWas: R4: what is handed in is not changed, its spare room
// neither, and a table does not hang on it any more.
func TestGrammarStaysAsItWas(t *testing.T) {
	const w = "axabc"
	cyclic, spoiled := samples.Plain(), samples.Plain()
	cyclic.Rules[2].Conj[0].Seq[0] = ref(0)
	spoiled.Start = 2
	r := samples.Numbers(4)
	for _, g := range []api.Grammar{samples.Plain(), cyclic, spoiled, r.Leveled(5), r.Leveled(5)} {
		given := samples.Roomy(g)
		x, e := mean.New(given, w)
		if !samples.Same(given, samples.Roomy(g)) {
			t.Errorf("R4: New changed %v into %v", g, given)
		}
		if e != api.OK {
			continue
		}
		before := told(x, g, w)
		samples.Overwrite(given)
		if after := told(x, g, w); after != before || after != told(made(t, g, w), g, w) {
			t.Errorf("R4: %s, not %s", brief(after), brief(before))
		}
	}
}

// TestNothingIsKept: R5: what a table says hangs on its grammar and text alone;
// other tables, and asking, change nothing.
func TestNothingIsKept(t *testing.T) {
	r := samples.Numbers(44)
	for range 100 {
		g, w := r.Leveled(5), r.Text(5)
		x := made(t, g, w)
		first := told(x, g, w)
		wantNone(t, "nothing", api.Grammar{}, w)
		wantNone(t, "too long", g, strings.Repeat("a", api.MaxInput+1))
		made(t, r.Leveled(5), r.Text(5))
		wantNothing(t, x, -1, at(-1, 0, 0), 0, 0)
		if again, other := told(x, g, w), told(made(t, g, w), g, w); again != first || other != first {
			t.Fatalf("R5: %s, %s, %s", brief(first), brief(again), brief(other))
		}
	}
}

func TestSeveralGoroutines(t *testing.T) {
	g := samples.Read(`start S; S = A & ~ B; A = "a" A | "b" | ""; B = A "b" & ~ "b";`)
	want := told(made(t, g, "aab"), g, "aab")
	var group sync.WaitGroup
	for range 8 {
		group.Go(func() {
			for range 30 {
				x, e := mean.New(g, "aab")
				if e != api.OK || told(x, g, "aab") != want {
					t.Errorf("R5: %d", e)
				}
				wantNone(t, "not itself", named(1, rule(0, rowNot(ref(0)))), "aab")
			}
		})
	}
	group.Wait()
}

// TestGreatGrammars: R1: what is far too much is refused in a time that its
// size explains.
func TestGreatGrammars(t *testing.T) {
	for _, s := range samples.Great() {
		wantNone(t, s.What, s.Grammar, "a")
	}
}

// TestAnyNumbers: R1: no numbers make a panic; what may be and has no cycle has
// a table, all else has none.
func TestAnyNumbers(t *testing.T) {
	for _, g := range samples.AnyNumbers() {
		if _, _, e := strata.Strata(g); e == api.OK {
			wantAgain(t, g, "ax")
		} else {
			wantNone(t, "may not be, or a cycle", g, "ax")
		}
	}
}
