package table_test

import (
	"fmt"
	"math"
	"regexp"
	"slices"
	"strings"
	"testing"

	"temple/api"
	"temple/mean"
	"temple/nulls"
	"temple/samples"
	"temple/seqs"
	"temple/strata"
	"temple/table"
)

var (
	ref, span   = samples.Ref, samples.Span
	row, rowNot = samples.Row, samples.RowNot
	rule, named = samples.Rule, samples.Named
)

// mixed is a text of many different pieces, as long as a text can be.
const mixed = "abcabbccaaabacbcabacabaaabbbccca"

// brief tells the beginning of something that may be long.
func brief(x any) string {
	return fmt.Sprintf("%.300s", fmt.Sprint(x))
}

// made is the engine of a grammar that has one.
func made(t *testing.T, g api.Grammar) *table.Engine {
	t.Helper()
	x, e := table.New(g)
	if x == nil || e != api.OK {
		t.Fatalf("P15.1: New(%s) = %v, %d", brief(g), x != nil, e)
	}
	return x
}

// feed feeds an engine a text, each byte of which it must take.
func feed(t *testing.T, x *table.Engine, w string) {
	t.Helper()
	for i, c := range []byte(w) {
		if e := x.Feed(int(c)); e != api.OK {
			t.Fatalf("P15.1: %q, byte %d: %d", w, i, e)
		}
	}
}

// fed is the engine of a grammar, fed a text.
func fed(t *testing.T, g api.Grammar, w string) *table.Engine {
	t.Helper()
	x := made(t, g)
	feed(t, x, w)
	return x
}

// wantNone: P15.1: there is no engine, and none beside the error.
func wantNone(t *testing.T, what string, g api.Grammar) {
	t.Helper()
	if x, e := table.New(g); x != nil || e != api.ErrTableForm {
		t.Errorf("P15.1: %s: New(%s) = %v, %d", what, brief(g), x != nil, e)
	}
}

// wantSteps: P15.2: an engine took no more turns than it may.
func wantSteps(t *testing.T, x *table.Engine, g api.Grammar) {
	t.Helper()
	n := x.Len() + 1
	if s := x.Steps(); s <= 0 || s > api.StepFactor*(seqs.Count(g)+1)*n*n*n {
		t.Fatalf("P15.2: %s, %d bytes: %d", brief(g), x.Len(), s)
	}
}

// wantEach: P15.1, P15.2: behind each byte of a text the engine says of all that
// was fed what is wanted, asked once and twice, and took some more turns, but
// not too many.
func wantEach(t *testing.T, g api.Grammar, w string, wanted func(s string) bool) *table.Engine {
	t.Helper()
	x, before := made(t, g), 0
	for n := range len(w) + 1 {
		if n > 0 {
			feed(t, x, w[n-1:n])
		}
		want := wanted(w[:n])
		if x.In() != want || x.In() != want {
			t.Fatalf("P15.1: %s, %q: %v", brief(g), w[:n], !want)
		}
		if x.Len() != n {
			t.Fatalf("P15.1: %s, %q: Len %d", brief(g), w[:n], x.Len())
		}
		wantSteps(t, x, g)
		if x.Steps() <= before {
			t.Fatalf("P15.2: %s, %q: %d steps behind %d", brief(g), w[:n], x.Steps(), before)
		}
		before = x.Steps()
	}
	return x
}

// wantMean: P15.1: whichever name is the start, the engine says what layer 11
// says.
func wantMean(t *testing.T, g api.Grammar, w string) {
	t.Helper()
	means, e := mean.New(g, w)
	if e != api.OK {
		t.Fatalf("New(%s, %q): %d", brief(g), w, e)
	}
	for g.Start = range g.Names {
		wantEach(t, g, w, func(s string) bool { return means.Has(g.Start, 0, len(s)) })
	}
}

// wantTexts: P15.1: the grammar of a text has what is wanted: of all texts of up
// to five of three bytes, of each piece of a mixed one up to its end, of others.
func wantTexts(t *testing.T, text string, wanted func(s string) bool) {
	t.Helper()
	g := samples.Read(text)
	samples.EachChoice(5, 3, func(chosen []int) {
		w := make([]byte, len(chosen))
		for i, c := range chosen {
			w[i] = byte('a' + c)
		}
		wantEach(t, g, string(w), wanted)
	})
	for i := range mixed {
		wantEach(t, g, mixed[i:], wanted)
	}
	for _, w := range []string{strings.Repeat("a", api.MaxInput), strings.Repeat("b", api.MaxInput), "x", "\x00\xff"} {
		wantEach(t, g, w, wanted)
	}
}

// like is the texts that are, from their beginning to their end, like a pattern.
func like(pattern string) func(s string) bool {
	return regexp.MustCompile(`^(?s:` + pattern + `)$`).MatchString
}

// unlike is all other ones.
func unlike(pattern string) func(s string) bool {
	is := like(pattern)
	return func(s string) bool { return !is(s) }
}

func never(string) bool  { return false }
func always(string) bool { return true }

func TestWhatMayNotBe(t *testing.T) {
	for _, s := range samples.MayNotBe() {
		wantNone(t, s.What, s.Grammar)
	}
	wantMean(t, samples.Plain(), "axxabx")
}

func TestCycles(t *testing.T) {
	wantNone(t, "not itself", named(1, rule(0, rowNot(ref(0)))))
	wantNone(t, "not itself, beside a rule that holds", named(1, rule(0, row()), rule(0, rowNot(ref(0)))))
	wantNone(t, "over another name", named(2, rule(0, row(ref(1))), rule(1, rowNot(ref(0)))))
	wantNone(t, "of names that nobody needs", named(3, rule(0, row()), rule(1, row(ref(2))), rule(2, rowNot(ref(1)))))
	wantNone(t, "a text", samples.Read(`start S; S = "" | T & ~ "b"; T = "c" & ~ "d" S "e";`))
	// A cycle without a negation, and a negation without a cycle, are none.
	wantMean(t, named(2, rule(0, row(ref(1))), rule(1, row(ref(0)))), "a")
	wantMean(t, named(2, rule(0, rowNot(ref(1))), rule(1, row())), "a")
}

// TestMixedCycles: of grammars with many negations those are refused in which
// layer 8 finds a cycle, and no others.
func TestMixedCycles(t *testing.T) {
	r := samples.Numbers(15)
	told, cycles := 0, 0
	for range 2000 {
		g := r.Grammar(4)
		if _, _, e := strata.Strata(g); e != api.OK {
			wantNone(t, "a cycle", g)
			cycles++
		} else {
			wantMean(t, g, "a\x80\xff")
			told++
		}
	}
	if told < 200 || cycles < 200 {
		t.Errorf("%d told, %d cycles", told, cycles)
	}
}

// TestFedNothing: a new engine has no bytes, and says whether the start has the
// empty text.
func TestFedNothing(t *testing.T) {
	for _, c := range []struct {
		text string
		in   bool
	}{
		{`start S; S = "";`, true},
		{`start S; S = "a";`, false},
		{`start S; S = "a" | T T; T = "b" T | "";`, true},
		{`start T; S = ""; T = S "b";`, false},
		{`start S; S = ~ "a";`, true},
		{`start S; S = ~ T; T = "";`, false},
		{`start S; S = ~ T; T = ~ U; U = U U | "";`, true},
		{`start S; S = S;`, false},
		{`start S; S = "" & ~ T; T = T "a" T | "b";`, true},
	} {
		if x := made(t, samples.Read(c.text)); x.Len() != 0 || x.In() != c.in {
			t.Errorf("P15.1: %s: %d, %v", c.text, x.Len(), x.In())
		}
	}
	r, in := samples.Numbers(16), 0
	for range 2000 {
		g := r.Leveled(10)
		has, _ := nulls.Nulls(g)
		x := made(t, g)
		if x.In() != has[g.Start] || x.Len() != 0 {
			t.Fatalf("P15.1: %s: %d, %v", brief(g), x.Len(), x.In())
		}
		if x.In() {
			in++
		}
	}
	if in < 300 || in > 1700 {
		t.Errorf("%d of 2000", in)
	}
}

// noBytes is numbers that are no bytes.
func noBytes() []int {
	out := []int{math.MinInt, math.MinInt32, -1 << 32, -65536, -257, -256, -255, 512, 65536, 1<<32 - 1, 1 << 32, 1<<32 + 'a', 1 << 40, math.MaxInt}
	for i := range 200 {
		out = append(out, -1-i, 256+i)
	}
	return out
}

// wantRefused: P15.1, R5: what is fed is refused, and the engine stays as it was.
func wantRefused(t *testing.T, x *table.Engine, c int, want api.Errno) {
	t.Helper()
	in, length, steps := x.In(), x.Len(), x.Steps()
	if e := x.Feed(c); e != want {
		t.Errorf("P15.1: %d bytes, Feed(%d) = %d, not %d", length, c, e, want)
	}
	if x.In() != in || x.Len() != length || x.Steps() != steps {
		t.Errorf("R5: %d bytes, Feed(%d): %v, %d, %d, not %v, %d, %d", length, c, x.In(), x.Len(), x.Steps(), in, length, steps)
	}
}

func TestNoBytes(t *testing.T) {
	g := samples.Read(`start S; S = A & ~ "aab"; A = 'a'..'b' A | B; B = "b" B | "";`)
	const w = "aabbabba"
	x, other := made(t, g), made(t, g)
	for n := range len(w) + 1 {
		for _, c := range noBytes() {
			wantRefused(t, x, c, api.ErrTableForm)
		}
		if x.In() != other.In() || x.Len() != other.Len() || x.Steps() != other.Steps() {
			t.Fatalf("R5: %q: %v, %d, %d", w[:n], x.In(), x.Len(), x.Steps())
		}
		if n < len(w) {
			feed(t, x, w[n:n+1])
			feed(t, other, w[n:n+1])
		}
	}
}

func TestFull(t *testing.T) {
	for _, text := range []string{
		`start S; S = 'a'..'b' S | "";`,
		`start S; S = "a" S "a" | "a" S "b" | "b" S "a" | "b" S "b" | "a" | "b";`,
		`start S; S = ~ "a";`,
	} {
		g := samples.Read(text)
		x := made(t, g)
		for n := range api.MaxInput {
			if x.Len() != n {
				t.Fatalf("P15.1: %d bytes: %d", n, x.Len())
			}
			feed(t, x, "a")
		}
		for range 3 {
			for c := range 256 {
				wantRefused(t, x, c, api.ErrTableFull)
			}
		}
		wantSteps(t, x, g)
		if x.Len() != api.MaxInput {
			t.Errorf("P15.1: %d bytes", x.Len())
		}
	}
}

// TestFullAndNoByte: R6: that it is no byte is said ahead of that there is no
// room.
func TestFullAndNoByte(t *testing.T) {
	x := fed(t, samples.Read(`start S; S = "a" S | "";`), strings.Repeat("a", api.MaxInput))
	for _, c := range noBytes() {
		wantRefused(t, x, c, api.ErrTableForm)
		wantRefused(t, x, 'a', api.ErrTableFull)
	}
}

// TestEachByte: each byte is taken, as what it is.
func TestEachByte(t *testing.T) {
	for _, ends := range [][2]int{{0, 0}, {0, 255}, {255, 255}, {'a', 'a'}, {'a', 'z'}, {127, 128}, {1, 254}} {
		g := named(1, rule(0, row(span(ends[0], ends[1]))))
		for c := range 256 {
			x := made(t, g)
			if e := x.Feed(c); e != api.OK || x.Len() != 1 || x.In() != (ends[0] <= c && c <= ends[1]) {
				t.Errorf("P15.1: %v, %d: %d, %d, %v", ends, c, e, x.Len(), x.In())
			}
			wantMean(t, g, string([]byte{byte(c), byte(255 - c)}))
		}
	}
	// Bytes are not mistaken for their neighbours where many stand in a row.
	g := named(1)
	all := row()
	for i := range api.MaxInput {
		all.Seq = append(all.Seq, span(i*8, i*8))
	}
	g.Rules = append(g.Rules, rule(0, all))
	for i := range api.MaxInput {
		for _, by := range []int{0, 1, 7} {
			x := made(t, g)
			for k := range api.MaxInput {
				c := k * 8
				if k == i {
					c += by
				}
				if e := x.Feed(c); e != api.OK || x.In() != (k == api.MaxInput-1 && by == 0) {
					t.Fatalf("P15.1: %d: %d, %v", k, e, x.In())
				}
			}
		}
	}
}

func TestUnions(t *testing.T) {
	wantTexts(t, `start S; S = "a" | "bb" | "";`, like(`a|bb|`))
	wantTexts(t, `start S; S = T | U | "cc"; T = "a" T | "a"; U = U "b" | "b";`, like(`a+|b+|cc`))
	wantTexts(t, `start S; S = "a" & "b" | "c" | "b" & "c";`, like(`c`))
	wantTexts(t, `start S; S = ~ "a" | ~ "b";`, always)
	wantTexts(t, `start S; S = "ab" "c" 'a'..'c' | 'b'..'c' 'a'..'b';`, like(`abc[abc]|[bc][ab]`))
}

func TestConjunctions(t *testing.T) {
	wantTexts(t, `start S; S = A & B; A = 'a'..'c' A | "a"; B = "b" | B 'a'..'c';`, like(`b[abc]*a`))
	wantTexts(t, `start S; S = "a" & "b";`, never)
	wantTexts(t, `start S; S = "a" & "a" & 'a'..'c';`, like(`a`))
	// That one of them is there ahead of the others counts for nothing.
	wantTexts(t, `start S; S = A & B; A = "a" | A A; B = "aa" | "aa" B;`, like(`(aa)+`))
	wantTexts(t, `start S; S = S "b" & T | "a"; T = S 'b'..'c' | U; U = T;`, like(`ab*`))
}

func TestNegations(t *testing.T) {
	wantTexts(t, `start S; S = ~ "";`, unlike(``))
	wantTexts(t, `start S; S = ~ "a" & ~ "b" & ~ "";`, unlike(`a|b|`))
	wantTexts(t, `start S; S = A & ~ "a"; A = "a" A | "";`, like(`|aaa*`))
	wantTexts(t, `start S; S = ~ "a" & A; A = "a" A | "";`, like(`|aaa*`))
	wantTexts(t, `start S; S = "a" & ~ "a";`, never)
	wantTexts(t, `start S; S = ~ T; T = T;`, always)
}

// TestLevels: what a name is not, and what that is not.
func TestLevels(t *testing.T) {
	wantTexts(t, `start S; S = ~ T; T = "a" T | "";`, unlike(`a*`))
	wantTexts(t, `start S; S = ~ T; T = ~ U; U = "a" U | "";`, like(`a*`))
	wantTexts(t, `start S; S = ~ T; T = ~ U; U = ~ V; V = "a" V | "";`, unlike(`a*`))
	wantTexts(t, `start S; S = "b" N; N = ~ T; T = "a" T | "";`, like(`b.*[^a].*`))
	wantTexts(t, `start S; S = N "b" N; N = ~ T; T = 'a'..'c' T | "c";`, like(`(.*[^c])?b(.*[^c])?`))
	wantTexts(t, `start S; S = A & ~ N; A = "a" A | ""; N = A "a" & ~ O; O = "aa" O | "a";`, like(`|a(aa)*`))
	wantTexts(t, `start S; S = ~ T & ~ U; T = ~ V; U = "aa"; V = "a" V | "";`, func(s string) bool { return like(`a*`)(s) && s != "aa" })
}

// TestManyLevels: each name is what the one behind it, or ahead of it, is not.
func TestManyLevels(t *testing.T) {
	down, up := named(api.MaxNames), named(api.MaxNames)
	for i := range api.MaxNames {
		down.Rules = append(down.Rules, rule(i, rowNot(ref(min(i+1, api.MaxNames-1)))))
		up.Rules = append(up.Rules, rule(i, rowNot(ref(max(i-1, 0)))))
	}
	ground := row(span('a', 'b'), span('c', 'c'))
	down.Rules[api.MaxNames-1].Conj[0], up.Rules[0].Conj[0] = ground, ground
	for i := range api.MaxNames {
		wanted := like(`[ab]c`)
		if i%2 == 1 {
			wanted = unlike(`[ab]c`)
		}
		up.Start, down.Start = i, api.MaxNames-1-i
		for _, w := range []string{"bcacb", "ac", "ca", mixed} {
			wantEach(t, up, w, wanted)
			wantEach(t, down, w, wanted)
		}
	}
}

func TestRings(t *testing.T) {
	wantTexts(t, `start S; S = "a" S | "";`, like(`a*`))
	wantTexts(t, `start S; S = S "a" | "b";`, like(`ba*`))
	wantTexts(t, `start S; S = S S | "a" | "b";`, like(`[ab]+`))
	wantTexts(t, `start S; S = S S S | "a";`, like(`a(aa)*`))
	wantTexts(t, `start S; S = S;`, never)
	wantTexts(t, `start S; S = S & "a" | S S;`, never)
	wantTexts(t, `start S; S = T; T = U; U = S | "a";`, like(`a`))
	wantTexts(t, `start S; S = "a" T | ""; T = "b" S;`, like(`(ab)*`))
	wantTexts(t, `start S; S = T S | "c"; T = S T | "";`, like(`c+`))
	wantTexts(t, `start S; S = T "a" & ~ "baa" | "b"; T = S;`, like(`b|ba`))
}

// TestRingsOfAllNames: a name has what the last one of a long row has, wherever
// its rule stands.
func TestRingsOfAllNames(t *testing.T) {
	for _, step := range []int{1, 5, api.MaxNames - 1} {
		g := named(api.MaxNames)
		for i := range api.MaxNames {
			g.Rules = append(g.Rules, rule(i, row(ref((i+step)%api.MaxNames))))
			if i == 20 {
				g.Rules = append(g.Rules, rule(i, row(ref(i), span('a', 'a'))), rule(i, row(span('b', 'b'))))
			}
		}
		for g.Start = range api.MaxNames {
			for _, w := range []string{"b" + strings.Repeat("a", api.MaxInput-1), "abaa", "baba"} {
				wantEach(t, g, w, like(`ba*`))
			}
		}
	}
}

// TestEmptyTexts: names that have the empty text, ahead of others, between them
// and behind them.
func TestEmptyTexts(t *testing.T) {
	wantTexts(t, `start S; S = "a" E "b"; E = "";`, like(`ab`))
	wantTexts(t, `start S; S = E "a" E E "b" E; E = "" | "c";`, like(`c?ac?c?bc?`))
	wantTexts(t, `start S; S = S E | "b"; E = "" | E E | "a";`, like(`ba*`))
	wantTexts(t, `start S; S = E S E | "b"; E = "" | "a";`, like(`a*ba*`))
	wantTexts(t, `start S; S = S S | "a" | "";`, like(`a*`))
	wantTexts(t, `start S; S = A B A B; A = B | "a"; B = A | "b" | "";`, like(`[ab]{0,4}`))
	// One that has it only as another one has it not.
	wantTexts(t, `start S; S = "a" N N "b"; N = ~ T & U; T = 'a'..'c' T | "c"; U = "" | "c" | "a";`, like(`aa?a?b`))
	// The empty text between two names of a ring, found later than they are.
	wantTexts(t, `start S; S = T E T; T = S | "c"; E = F; F = G; G = T "x" | "";`, like(`c(c)+`))
}

func TestRanges(t *testing.T) {
	wantTexts(t, `start S; S = 'b'..'c' 'a'..'b' S | 'a'..'a';`, like(`([bc][ab])*a`))
	wantTexts(t, `start S; S = T T; T = 'a'..'c' | "";`, like(`[abc]?[abc]?`))
	wantTexts(t, `start S; S = A & ~ B; A = 'a'..'c' A | ""; B = A 'a'..'b' 'b'..'c' A;`, func(s string) bool {
		return like(`[abc]*`)(s) && !like(`.*[ab][bc].*`)(s)
	})
}

// TestKnownLanguages: grammars whose meaning is known otherwise.
func TestKnownLanguages(t *testing.T) {
	wantTexts(t, `start S; S = A D & B E; A = "a" A | ""; D = "b" D "c" | ""; B = "a" B "b" | ""; E = "c" E | "";`, isThrice)
	wantTexts(t, `start S; S = C & D; C = X C X | "c"; X = "a" | "b";
		D = "a" A & "a" D | "b" B & "b" D | "c" E; A = X A X | "c" E "a"; B = X B X | "c" E "b"; E = X E | "";`, isTwice)
	wantTexts(t, `start S; S = ~ P; P = "a" P "a" | "b" P "b" | "c" P "c" | 'a'..'c' | "";`, func(s string) bool {
		return like(`.*[^abc].*`)(s) || !isMirrored(s)
	})
	g := samples.Read(`start S; S = A D & B E; A = "a" A | ""; D = "b" D "c" | ""; B = "a" B "b" | ""; E = "c" E | "";`)
	for n := range 11 {
		wantEach(t, g, strings.Repeat("a", n)+strings.Repeat("b", n)+strings.Repeat("c", n)+"c", isThrice)
	}
}

// isThrice: is it as many a's, b's, c's, in this row?
func isThrice(s string) bool {
	n := len(s) / 3
	return s == strings.Repeat("a", n)+strings.Repeat("b", n)+strings.Repeat("c", n)
}

// isTwice: is it the same a's and b's twice, with a c between?
func isTwice(s string) bool {
	n := len(s) / 2
	return len(s)%2 == 1 && s[n] == 'c' && s[:n] == s[n+1:] && like(`[ab]*`)(s[:n])
}

// isMirrored: is it the same from its end on?
func isMirrored(s string) bool {
	turned := []byte(s)
	slices.Reverse(turned)
	return s == string(turned)
}

// TestPowers: four names have as many bytes as 1, 2, 3 and 6 times the powers of
// four, though there is but one byte.
func TestPowers(t *testing.T) {
	g := samples.Read(`start A; A = A C & B B | "a"; B = A A & B F | "aa"; C = A B & F F | "aaa"; F = A B & C C;`)
	for name, first := range []int{1, 2, 3, 6} {
		g.Start = name
		wantEach(t, g, strings.Repeat("a", api.MaxInput), func(s string) bool {
			n := len(s)
			for n > first && n%4 == 0 {
				n /= 4
			}
			return n == first
		})
	}
}

// TestStartIsAsked: whichever name is the start, it is the one that is asked;
// what names are called counts for nothing.
func TestStartIsAsked(t *testing.T) {
	g := samples.Read(`start S; S = T "b"; T = "a" T | "";`)
	g.Names = []string{"z", "y"}
	wantEach(t, g, "aaab", like(`a*b`))
	g.Start = 1
	wantEach(t, g, "aaab", like(`a*`))
}
