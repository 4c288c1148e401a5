package first_test

import (
	"fmt"
	"slices"
	"sync"
	"testing"

	"temple/api"
	"temple/byteset"
	"temple/first"
	"temple/gram"
	"temple/samples"
	"temple/strata"
)

var (
	ref, span   = samples.Ref, samples.Span
	row, rowNot = samples.Row, samples.RowNot
	rule, named = samples.Rule, samples.Named
)

// says is what is told of a name.
type says struct {
	empty  bool
	first  string
	follow string
	end    bool
}

// Names that the tests' grammars lean on, behind the asked one, which is the
// start: one that only comes to nothing, one that only begins with x, one that
// begins with m or comes to nothing, one that leads nowhere, and one that
// stands where its followers are asked for.
const (
	asked = iota
	gone
	solid
	maybe
	never
	mark
)

// asking is a grammar of the asked name with some rules, and of the others.
func asking(rules ...[]api.Conjunct) api.Grammar {
	g := named(mark + 1)
	for _, conjuncts := range rules {
		g.Rules = append(g.Rules, rule(asked, conjuncts...))
	}
	g.Rules = append(g.Rules,
		rule(gone, row()),
		rule(solid, row(one('x'))),
		rule(maybe, row(one('m'))), rule(maybe, row()),
		rule(never, row(ref(never))),
		rule(mark, row(one('q'))))
	return g
}

// one is the symbol of one byte.
func one(c byte) api.Symbol {
	return span(int(c), int(c))
}

// alt is the conjuncts of a rule.
func alt(conjuncts ...api.Conjunct) []api.Conjunct {
	return conjuncts
}

// set is the bytes of a text.
func set(s string) api.Bytes {
	var b api.Bytes
	for _, c := range []byte(s) {
		b[c/64] |= 1 << (c % 64)
	}
	return b
}

// brief tells the beginning of something that may be long.
func brief(x any) string {
	return fmt.Sprintf("%.300s", fmt.Sprint(x))
}

// all is what the three calls answer of a grammar that may be.
func all(t *testing.T, g api.Grammar) ([]bool, []api.Bytes, []api.Follow) {
	t.Helper()
	empty, e := first.Empty(g)
	begins, f := first.First(g)
	behind, h := first.Follow(g)
	if e != api.OK || f != api.OK || h != api.OK {
		t.Fatalf("P12.1, P12.2: %s: %d, %d, %d", brief(g), e, f, h)
	}
	return empty, begins, behind
}

// want: P12.1, P12.2: what is told of each name, in their order.
func want(t *testing.T, g api.Grammar, each ...says) {
	t.Helper()
	var empty []bool
	var begins []api.Bytes
	var behind []api.Follow
	for _, s := range each {
		empty = append(empty, s.empty)
		begins = append(begins, set(s.first))
		behind = append(behind, api.Follow{Bytes: set(s.follow), End: s.end})
	}
	wantAll(t, g, empty, begins, behind)
}

// wantAll: P12.1, P12.2: the answers of all three calls.
func wantAll(t *testing.T, g api.Grammar, empty []bool, begins []api.Bytes, behind []api.Follow) {
	t.Helper()
	gotEmpty, gotBegins, gotBehind := all(t, g)
	if !slices.Equal(gotEmpty, empty) {
		t.Errorf("P12.1: Empty(%s) = %v, not %v", brief(g), gotEmpty, empty)
	}
	if !slices.Equal(gotBegins, begins) {
		t.Errorf("P12.1: First(%s) = %v, not %v", brief(g), gotBegins, begins)
	}
	if !slices.Equal(gotBehind, behind) {
		t.Errorf("P12.2: Follow(%s) = %v, not %v", brief(g), gotBehind, behind)
	}
}

// wantEmpty: P12.1: may the asked name come to nothing?
func wantEmpty(t *testing.T, empty bool, rules ...[]api.Conjunct) {
	t.Helper()
	got, _, _ := all(t, asking(rules...))
	if !slices.Equal(got, []bool{empty, true, false, true, false, false}) {
		t.Errorf("P12.1: Empty(%s) = %v, not %v", brief(rules), got, empty)
	}
}

// wantFirst: P12.1: what bytes may come first of the asked name?
func wantFirst(t *testing.T, bytes string, rules ...[]api.Conjunct) {
	t.Helper()
	_, got, _ := all(t, asking(rules...))
	if !slices.Equal(got, []api.Bytes{set(bytes), {}, set("x"), set("m"), {}, set("q")}) {
		t.Errorf("P12.1: First(%s) = %v, not of %q", brief(rules), got, bytes)
	}
}

// wantBehind: P12.2: what may come behind the mark, which stands in rules of
// the start?
func wantBehind(t *testing.T, bytes string, end bool, rules ...[]api.Conjunct) {
	t.Helper()
	_, _, got := all(t, asking(rules...))
	if got[mark] != (api.Follow{Bytes: set(bytes), End: end}) {
		t.Errorf("P12.2: Follow(%s) = %v, not %q, %v", brief(rules), got[mark], bytes, end)
	}
}

// wantNone: P12.1, P12.2: a grammar is refused, with no answer beside it.
func wantNone(t *testing.T, what string, g api.Grammar) {
	t.Helper()
	if got, e := first.Empty(g); got != nil || e != api.ErrFirstForm {
		t.Errorf("P12.1: %s: Empty(%s) = %v, %d", what, brief(g), got, e)
	}
	if got, e := first.First(g); got != nil || e != api.ErrFirstForm {
		t.Errorf("P12.1: %s: First(%s) = %v, %d", what, brief(g), got, e)
	}
	if got, e := first.Follow(g); got != nil || e != api.ErrFirstForm {
		t.Errorf("P12.2: %s: Follow(%s) = %v, %d", what, brief(g), got, e)
	}
}

// letters is the bytes from one to another one.
func letters(lo, hi int) string {
	var b []byte
	for c := lo; c <= hi; c++ {
		b = append(b, byte(c))
	}
	return string(b)
}

// plainSays is what is told of samples.Plain.
func plainSays() []says {
	each := letters(0, 255)
	return []says{{empty: true, first: each}, {first: each, follow: letters('a', 'z'), end: true}}
}

func TestWhatMayNotBe(t *testing.T) {
	for _, s := range samples.MayNotBe() {
		wantNone(t, s.What, s.Grammar)
	}
	want(t, samples.Plain(), plainSays()...)
}

// TestCycles: a grammar in which layer 8 finds a cycle may be, and has answers.
func TestCycles(t *testing.T) {
	for _, c := range []struct {
		g    api.Grammar
		each []says
	}{
		{named(1, rule(0, rowNot(ref(0)))), []says{{end: true}}},
		{named(1, rule(0, rowNot(ref(0))), rule(0, row())), []says{{empty: true, end: true}}},
		{named(1, rule(0, rowNot(one('a'), ref(0), one('b')))), []says{{first: "a", follow: "b", end: true}}},
		{samples.Read(`start S; S = T "s"; T = ~ S "t" & "u" | "";`),
			[]says{{first: "su", follow: "t", end: true}, {empty: true, first: "su", follow: "s"}}},
	} {
		if _, _, e := strata.Strata(c.g); e != api.ErrStrataCycle {
			t.Fatalf("%s has no cycle: %d", brief(c.g), e)
		}
		want(t, c.g, c.each...)
	}
}

func TestTexts(t *testing.T) {
	want(t, samples.Read(`start S; S = "";`), says{empty: true, end: true})
	want(t, samples.Read(`start S; S = "a" S | "";`), says{empty: true, first: "a", end: true})
	want(t, samples.Read(`start S; S = S "a" | "b";`), says{first: "b", follow: "a", end: true})
	want(t, samples.Read(`start E; E = T U; U = "+" T U | ""; T = F V; V = "*" F V | ""; F = "(" E ")" | "i";`),
		says{first: "(i", follow: ")", end: true},
		says{empty: true, first: "+", follow: ")", end: true},
		says{first: "(i", follow: "+)", end: true},
		says{empty: true, first: "*", follow: "+)", end: true},
		says{first: "(i", follow: "+*)", end: true})
	want(t, samples.Read(`start S; S = A B & ~ C "x" | "y"; A = "a" | ""; B = 'b'..'d' A | ""; C = ~ A & B;`),
		says{empty: true, first: "abcdxy", end: true},
		says{empty: true, first: "a", follow: "bcdx", end: true},
		says{empty: true, first: "bcd", follow: "x", end: true},
		says{empty: true, first: "abcd", follow: "x"})
}

func TestEmptyOfNoSymbols(t *testing.T) {
	wantEmpty(t, true, alt(row()))
	wantEmpty(t, true, alt(rowNot()))
	wantEmpty(t, true, alt(api.Conjunct{Seq: []api.Symbol{}}))
}

func TestEmptyOfNames(t *testing.T) {
	for _, s := range []api.Symbol{ref(solid), ref(never), one('a'), one(0), one(255), span(0, 255)} {
		wantEmpty(t, false, alt(row(s)))
		wantEmpty(t, false, alt(row(s, ref(gone))))
		wantEmpty(t, false, alt(row(ref(gone), s)))
		wantEmpty(t, false, alt(row(ref(maybe), s, ref(maybe))))
		wantEmpty(t, false, alt(rowNot(s)))
		wantEmpty(t, false, alt(rowNot(ref(gone), s)))
	}
	wantEmpty(t, true, alt(row(ref(gone))))
	wantEmpty(t, true, alt(row(ref(maybe))))
	wantEmpty(t, true, alt(row(ref(maybe), ref(gone), ref(maybe))))
	// One that may not among as many as there can be.
	long := slices.Repeat([]api.Symbol{ref(maybe)}, api.MaxSeq)
	wantEmpty(t, true, alt(row(long...)))
	for i := range long {
		long[i] = ref(solid)
		wantEmpty(t, false, alt(row(long...)))
		long[i] = ref(maybe)
	}
}

// TestEmptyOfNegated: a negated conjunct counts as any other.
func TestEmptyOfNegated(t *testing.T) {
	wantEmpty(t, true, alt(rowNot(ref(gone))))
	wantEmpty(t, true, alt(rowNot(ref(gone), ref(maybe))))
	wantEmpty(t, false, alt(rowNot(ref(solid))))
	wantEmpty(t, false, alt(rowNot(ref(never))))
	wantEmpty(t, true, alt(row(one('a')), rowNot(ref(gone))))
	wantEmpty(t, false, alt(row(one('a')), rowNot(ref(solid))))
}

// TestEmptyOfSeveral: one conjunct is enough, wherever it stands.
func TestEmptyOfSeveral(t *testing.T) {
	wantEmpty(t, true, alt(row(), row(one('a'))))
	wantEmpty(t, true, alt(row(one('a')), row(ref(gone))))
	wantEmpty(t, true, alt(row(one('a'))), alt(row(ref(maybe))))
	wantEmpty(t, true, alt(row(ref(maybe))), alt(row(one('a'))))
	wantEmpty(t, false, alt(row(one('a')), row(ref(solid))), alt(row(ref(gone), ref(solid))))
	for i := range api.MaxConj {
		parts := slices.Repeat([]api.Conjunct{row(ref(solid))}, api.MaxConj)
		wantEmpty(t, false, parts, parts)
		parts[i] = row(ref(maybe))
		wantEmpty(t, true, parts)
		wantEmpty(t, true, alt(row(one('a'))), parts)
		wantEmpty(t, true, parts, alt(row(one('a'))))
	}
}

// TestEmptyIsLeast: names that need one another or themselves come to nothing
// only if a conjunct brings it about.
func TestEmptyIsLeast(t *testing.T) {
	wantEmpty(t, false, alt(row(ref(asked))))
	wantEmpty(t, false, alt(row(ref(asked), ref(asked))))
	wantEmpty(t, false, alt(rowNot(ref(asked))))
	wantEmpty(t, false, alt(row(ref(gone), ref(asked))), alt(row(one('a'))))
	wantEmpty(t, true, alt(row(ref(asked))), alt(row(ref(gone))))
	wantEmpty(t, true, alt(row(ref(asked)), row(ref(gone))))
	for names := 1; names <= api.MaxNames; names++ {
		g := named(names)
		for i := range names {
			g.Rules = append(g.Rules, rule(i, row(ref((i+1)%names))))
		}
		empty, _, _ := all(t, g)
		if slices.Contains(empty, true) {
			t.Errorf("P12.1: a ring of %d: %v", names, empty)
		}
		for _, begun := range []int{0, names / 2, names - 1} {
			g.Rules[begun].Conj = append(g.Rules[begun].Conj, row())
			empty, _, _ = all(t, g)
			if len(empty) != names || slices.Contains(empty, false) {
				t.Errorf("P12.1: a ring of %d, begun at %d: %v", names, begun, empty)
			}
			g.Rules[begun].Conj = g.Rules[begun].Conj[:1]
		}
	}
}

func TestFirstOfRanges(t *testing.T) {
	for _, ends := range [][2]int{{0, 0}, {255, 255}, {0, 255}, {'a', 'a'}, {'a', 'z'}, {63, 64}, {127, 128}, {1, 254}} {
		bytes := letters(ends[0], ends[1])
		wantFirst(t, bytes, alt(row(span(ends[0], ends[1]))))
		wantFirst(t, bytes, alt(rowNot(span(ends[0], ends[1]))))
		wantFirst(t, bytes, alt(row(span(ends[0], ends[1]), one('b'))))
		wantFirst(t, bytes, alt(row(ref(gone), span(ends[0], ends[1]))))
		wantFirst(t, bytes, alt(row(span(ends[0], ends[1]), ref(maybe))))
	}
	for c := range 256 {
		wantFirst(t, letters(c, c), alt(row(span(c, c))))
	}
	wantFirst(t, "\x00\xff", alt(row(one(0)), row(one(255))))
	wantFirst(t, "abyz", alt(row(span('a', 'b'))), alt(row(span('y', 'z'))))
}

func TestFirstOfNames(t *testing.T) {
	wantFirst(t, "", alt(row()))
	wantFirst(t, "x", alt(row(ref(solid))))
	wantFirst(t, "m", alt(row(ref(maybe))))
	wantFirst(t, "", alt(row(ref(gone))))
	wantFirst(t, "", alt(row(ref(never))))
	wantFirst(t, "x", alt(row(ref(solid), ref(mark))))
	wantFirst(t, "q", alt(row(ref(mark), one('a'))))
}

// TestFirstBehindNames: what stands behind names that may come to nothing
// counts, up to and with the first symbol that may not, and nothing behind it.
func TestFirstBehindNames(t *testing.T) {
	wantFirst(t, "ma", alt(row(ref(maybe), one('a'))))
	wantFirst(t, "a", alt(row(ref(gone), one('a'))))
	wantFirst(t, "mx", alt(row(ref(maybe), ref(solid))))
	wantFirst(t, "mx", alt(row(ref(maybe), ref(gone), ref(solid))))
	wantFirst(t, "m", alt(row(ref(maybe), ref(gone))))
	wantFirst(t, "mx", alt(row(ref(maybe), ref(solid), ref(mark))))
	wantFirst(t, "ma", alt(row(ref(maybe), one('a'), one('b'))))
	wantFirst(t, "ma", alt(row(ref(maybe), one('a'), ref(mark))))
	wantFirst(t, "x", alt(row(ref(solid), ref(maybe))))
	wantFirst(t, "a", alt(row(one('a'), ref(maybe))))
	// A name that leads nowhere may not come to nothing: what is behind it never comes.
	wantFirst(t, "m", alt(row(ref(maybe), ref(never), one('a'))))
	wantFirst(t, "", alt(row(ref(never), one('a'))))
	// As far as a row can reach.
	for n := range api.MaxSeq {
		ahead := slices.Repeat([]api.Symbol{ref(gone)}, n)
		wantFirst(t, "b", alt(row(append(ahead, slices.Repeat([]api.Symbol{one('b')}, api.MaxSeq-n)...)...)))
		if n > 0 {
			ahead[n-1] = ref(solid)
			wantFirst(t, "x", alt(row(append(ahead, one('b'))...)))
		}
	}
}

// TestFirstOfSeveral: each conjunct of each rule counts, negated or not.
func TestFirstOfSeveral(t *testing.T) {
	wantFirst(t, "ab", alt(row(one('a')), row(one('b'))))
	wantFirst(t, "ab", alt(row(one('a')), rowNot(one('b'))))
	wantFirst(t, "ab", alt(rowNot(one('a'))), alt(rowNot(one('b'))))
	wantFirst(t, "ma", alt(rowNot(ref(maybe), one('a'), one('b'))))
	wantFirst(t, "axm", alt(row(one('a')), row(ref(solid))), alt(rowNot(ref(maybe))))
	var bytes string
	var rules [][]api.Conjunct
	for i := range 25 {
		var parts []api.Conjunct
		for k := range api.MaxConj {
			c := byte(i*api.MaxConj + k)
			parts = append(parts, api.Conjunct{Neg: k%2 == 1, Seq: []api.Symbol{one(c), one(255)}})
			bytes += string([]byte{c})
		}
		rules = append(rules, parts)
	}
	wantFirst(t, bytes, rules...)
}

// TestFirstIsLeast: names that begin with themselves or with one another.
func TestFirstIsLeast(t *testing.T) {
	wantFirst(t, "", alt(row(ref(asked))))
	wantFirst(t, "", alt(row(ref(asked), one('a'))))
	wantFirst(t, "b", alt(row(ref(asked), one('a'))), alt(row(one('b'))))
	wantFirst(t, "b", alt(row(one('b'))), alt(row(ref(asked), one('a'))))
	wantFirst(t, "a", alt(row(ref(asked), one('a'))), alt(row()))
	wantFirst(t, "ma", alt(row(ref(asked), ref(asked), one('a'))), alt(rowNot(ref(maybe))))
	want(t, samples.Read(`start S; S = T "s"; T = S "t";`),
		says{follow: "t", end: true}, says{follow: "s"})
	want(t, samples.Read(`start S; S = T "s" | "a"; T = S "t" | "b";`),
		says{first: "ab", follow: "t", end: true}, says{first: "ab", follow: "s"})
	want(t, samples.Read(`start S; S = T "s" | ""; T = S "t" | "b";`),
		says{empty: true, first: "bt", follow: "t", end: true}, says{first: "bt", follow: "s"})
}

// TestFirstOverAllNames: a byte comes from the last name of a long row to the
// first one, whichever way the row goes.
func TestFirstOverAllNames(t *testing.T) {
	for _, step := range []int{1, 5, api.MaxNames - 1} {
		g := named(api.MaxNames)
		for i := range api.MaxNames {
			g.Rules = append(g.Rules, rule(i, row(ref((i+step)%api.MaxNames), one(byte(i)))))
		}
		g.Rules[20].Conj = append(g.Rules[20].Conj, row(span('a', 'c'), one('d')))
		_, begins, _ := all(t, g)
		if !slices.Equal(begins, slices.Repeat([]api.Bytes{set("abc")}, api.MaxNames)) {
			t.Errorf("P12.1: step %d: %v", step, begins)
		}
	}
}

// TestFollowOfTheStart: the start has End, and a name that stands nowhere has
// nothing.
func TestFollowOfTheStart(t *testing.T) {
	for start := range mark + 1 {
		g := asking(alt(row(one('a'))))
		g.Start = start
		_, _, behind := all(t, g)
		wanted := make([]api.Follow, mark+1)
		wanted[start].End = true
		if !slices.Equal(behind, wanted) {
			t.Errorf("P12.2: start %d: %v", start, behind)
		}
	}
	// Wherever else the start stands, End is among what may come.
	want(t, samples.Read(`start S; S = "a" S "b" | "";`), says{empty: true, first: "a", follow: "b", end: true})
	want(t, samples.Read(`start T; S = "a" T "b"; T = "t";`), says{first: "a"}, says{first: "t", follow: "b", end: true})
}

// TestFollowOfSymbols: what stands behind a name counts, up to and with the
// first symbol that may not come to nothing.
func TestFollowOfSymbols(t *testing.T) {
	wantBehind(t, "a", false, alt(row(ref(mark), one('a'))))
	wantBehind(t, "a", false, alt(row(ref(mark), one('a'), one('b'))))
	wantBehind(t, "x", false, alt(row(ref(mark), ref(solid), one('b'))))
	wantBehind(t, "ma", false, alt(row(ref(mark), ref(maybe), one('a'), one('b'))))
	wantBehind(t, "mx", false, alt(row(ref(mark), ref(maybe), ref(gone), ref(solid), ref(maybe))))
	wantBehind(t, "a", false, alt(row(ref(mark), ref(gone), one('a'))))
	wantBehind(t, "m", false, alt(row(ref(mark), ref(maybe), ref(never), one('a'))))
	wantBehind(t, "", false, alt(row(ref(mark), ref(never), one('a'))))
	wantBehind(t, letters(0, 255), false, alt(row(ref(mark), span(0, 255))))
	wantBehind(t, "\x00\xff", false, alt(row(ref(mark), one(0))), alt(row(ref(mark), one(255))))
	// What stands ahead of it does not count.
	wantBehind(t, "b", false, alt(row(one('a'), ref(mark), one('b'))))
	wantBehind(t, "b", false, alt(row(ref(maybe), ref(mark), one('b'))))
	wantBehind(t, "b", false, alt(row(ref(never), ref(mark), one('b'))))
	// Nor does what stands in other conjuncts.
	wantBehind(t, "b", false, alt(row(one('a')), row(ref(mark), one('b')), row(one('c'))))
	wantBehind(t, "", false, alt(row(one('a'))))
}

// TestFollowOfTheHead: if all behind a name may come to nothing, what may come
// behind the rule's head may come behind it, End with it.
func TestFollowOfTheHead(t *testing.T) {
	wantBehind(t, "", true, alt(row(ref(mark))))
	wantBehind(t, "", true, alt(row(one('a'), ref(mark))))
	wantBehind(t, "", true, alt(row(ref(mark), ref(gone))))
	wantBehind(t, "m", true, alt(row(ref(mark), ref(maybe), ref(gone), ref(maybe))))
	wantBehind(t, "mx", false, alt(row(ref(mark), ref(maybe), ref(solid))))
	wantBehind(t, "m", false, alt(row(ref(mark), ref(maybe), ref(never))))
	// The start also stands behind bytes here.
	wantBehind(t, "b", true, alt(row(ref(mark))), alt(row(ref(asked), one('b'))))
	wantBehind(t, "bm", true, alt(row(ref(mark), ref(maybe))), alt(row(ref(asked), one('b'))))
	wantBehind(t, "x", false, alt(row(ref(mark), ref(solid))), alt(row(ref(asked), one('b'))))
	// A head that is not the start has no End to hand on, but for what it has itself.
	want(t, samples.Read(`start S; S = T "s"; T = "t" U; U = "u";`),
		says{first: "t", end: true}, says{first: "t", follow: "s"}, says{first: "u", follow: "s"})
	want(t, samples.Read(`start S; S = T; T = "t" U; U = "u";`),
		says{first: "t", end: true}, says{first: "t", end: true}, says{first: "u", end: true})
	want(t, samples.Read(`start S; S = "s"; T = "t" U; U = "u";`),
		says{first: "s", end: true}, says{first: "t"}, says{first: "u"})
	// What a name hands on is not handed back.
	want(t, samples.Read(`start S; S = T | U "s"; T = "t" U; U = "u";`),
		says{first: "tu", end: true}, says{first: "t", end: true}, says{first: "u", follow: "s", end: true})
}

// TestFollowOfSeveral: a name that stands twice in a conjunct, in several
// ones, negated or not, and in rules of several names.
func TestFollowOfSeveral(t *testing.T) {
	wantBehind(t, "ab", false, alt(row(ref(mark), one('a'), ref(mark), one('b'))))
	wantBehind(t, "a", true, alt(row(ref(mark), one('a'), ref(mark))))
	wantBehind(t, "q", true, alt(row(ref(mark), ref(mark))))
	wantBehind(t, "qm", true, alt(row(ref(mark), ref(maybe), ref(mark), ref(gone))))
	wantBehind(t, "ab", false, alt(row(ref(mark), one('a')), row(ref(mark), one('b'))))
	wantBehind(t, "ab", false, alt(rowNot(ref(mark), one('a'))), alt(rowNot(ref(mark), one('b'))))
	wantBehind(t, "", true, alt(rowNot(ref(mark))))
	wantBehind(t, "am", true, alt(row(ref(mark), one('a')), rowNot(ref(mark), ref(maybe))))
	want(t, samples.Read(`start S; S = "s" T "a" | U; T = "t" U "b"; U = "u" & ~ T "c";`),
		says{first: "stu", end: true}, says{first: "t", follow: "ac"}, says{first: "tu", follow: "b", end: true})
	// A name that may come to nothing and stands twice begins behind itself.
	want(t, samples.Read(`start S; S = T T "s"; T = "t" | "";`),
		says{first: "ts", end: true}, says{empty: true, first: "t", follow: "ts"})
}

// TestFollowIsLeast: heads that hand on to one another.
func TestFollowIsLeast(t *testing.T) {
	want(t, samples.Read(`start S; S = "s"; T = U; U = T;`), says{first: "s", end: true}, says{}, says{})
	want(t, samples.Read(`start S; S = T "s"; T = U; U = T;`), says{end: true}, says{follow: "s"}, says{follow: "s"})
	want(t, samples.Read(`start S; S = "s"; T = U | "t" U "b"; U = T;`),
		says{first: "s", end: true}, says{first: "t", follow: "b"}, says{first: "t", follow: "b"})
	want(t, samples.Read(`start S; S = T "s" | U; T = "t" U; U = "u" T;`),
		says{first: "tu", end: true}, says{first: "t", follow: "s", end: true}, says{first: "u", follow: "s", end: true})
	want(t, samples.Read(`start S; S = S;`), says{end: true})
	want(t, samples.Read(`start S; S = S S;`), says{end: true})
	want(t, samples.Read(`start S; S = S S | "a";`), says{first: "a", follow: "a", end: true})
}

// TestFollowOverAllNames: what is behind one name of a ring comes to each
// other one, whichever way the ring goes.
func TestFollowOverAllNames(t *testing.T) {
	for _, step := range []int{1, 5, api.MaxNames - 1} {
		for _, start := range []int{0, 33, api.MaxNames - 1} {
			g := named(api.MaxNames)
			for i := range api.MaxNames {
				g.Rules = append(g.Rules, rule(i, row(one(byte(i)), ref((i+step)%api.MaxNames))))
			}
			g.Rules[20].Conj = append(g.Rules[20].Conj, rowNot(ref(41), one('z')))
			g.Start = start
			_, _, behind := all(t, g)
			wanted := slices.Repeat([]api.Follow{{Bytes: set("z"), End: true}}, api.MaxNames)
			if !slices.Equal(behind, wanted) {
				t.Errorf("P12.2: step %d, start %d: %v", step, start, behind)
			}
		}
	}
}

// TestNamesInTheirOrder: answers are of each name, in the names' order, for as
// many names as there can be.
func TestNamesInTheirOrder(t *testing.T) {
	for names := 1; names <= api.MaxNames; names++ {
		g := named(names)
		var each []says
		for i := range names {
			c, d := byte(i), byte(i+64)
			g.Rules = append(g.Rules, rule(i, row(one(c)), row(one(c), ref(i), one(d))))
			s := says{first: string([]byte{c}), follow: string([]byte{d}), end: i == names/2}
			if i%3 == 1 {
				g.Rules[i].Conj[0], s.empty = row(), true
			}
			each = append(each, s)
		}
		g.Start = names / 2
		want(t, g, each...)
		// What names are called says nothing.
		slices.Reverse(g.Names)
		want(t, g, each...)
	}
}

// TestGrammarStaysAsItWas: R4: what is handed in is not changed, its spare room
// neither, and answers do not hang on it any more.
func TestGrammarStaysAsItWas(t *testing.T) {
	spoiled := samples.Plain()
	spoiled.Start = 2
	for _, g := range []api.Grammar{samples.Plain(), spoiled} {
		given := samples.Roomy(g)
		empty, e := first.Empty(given)
		begins, _ := first.First(given)
		behind, _ := first.Follow(given)
		if !samples.Same(given, samples.Roomy(g)) {
			t.Errorf("R4: %v became %v", g, given)
		}
		given.Start, given.Names[0] = 0, ""
		given.Rules[0].Conj[0].Seq[1] = one('a')
		given.Rules[1].Conj = nil
		if e == api.OK {
			wantAll(t, samples.Plain(), empty, begins, behind)
		}
	}
	want(t, samples.Roomy(samples.Plain()), plainSays()...)
}

// TestAnswersAreApart: R4: whoever changes an answer, its spare room too,
// changes no other one.
func TestAnswersAreApart(t *testing.T) {
	g := samples.Plain()
	empty, begins, behind := all(t, g)
	otherEmpty, otherBegins, otherBehind := all(t, g)
	for i := range empty[:cap(empty)] {
		empty[:cap(empty)][i] = i%2 == 1
	}
	for i := range begins[:cap(begins)] {
		begins[:cap(begins)][i] = set("z")
	}
	for i := range behind[:cap(behind)] {
		behind[:cap(behind)][i] = api.Follow{Bytes: set("z")}
	}
	wantAll(t, g, otherEmpty, otherBegins, otherBehind)
	want(t, g, plainSays()...)
}

// TestNothingIsKept: R5: answers hang on the grammar alone; many times the
// same call answers the same.
func TestNothingIsKept(t *testing.T) {
	r := samples.Numbers(1212)
	for range 200 {
		all(t, r.Grammar(api.MaxNames))
		wantNone(t, "nothing", api.Grammar{})
		want(t, samples.Plain(), plainSays()...)
	}
	g := r.Grammar(api.MaxNames)
	empty, begins, behind := all(t, g)
	for range 100 {
		wantAll(t, g, empty, begins, behind)
	}
}

func TestSeveralGoroutines(t *testing.T) {
	g, bad := samples.Plain(), named(1, rule(0, row(ref(1))))
	var group sync.WaitGroup
	for range 8 {
		group.Go(func() {
			for range 100 {
				want(t, g, plainSays()...)
				wantNone(t, "a name above", bad)
			}
		})
	}
	group.Wait()
}

// TestGreatGrammars: R1: what is far too much is refused in a time that its
// size explains.
func TestGreatGrammars(t *testing.T) {
	for _, s := range samples.Great() {
		wantNone(t, s.What, s.Grammar)
	}
}

// TestAnyNumbers: R1: no numbers make a panic; what may be has answers, all
// else is refused.
func TestAnyNumbers(t *testing.T) {
	for _, g := range samples.AnyNumbers() {
		if gram.May(g) {
			wantAgain(t, g)
		} else {
			wantNone(t, "may not be", g)
		}
	}
}

// TestSetsAreLayerOnes: the bytes of an answer are a set of layer 1.
func TestSetsAreLayerOnes(t *testing.T) {
	_, begins, behind := all(t, samples.Read(`start S; S = T '0'..'9'; T = 'a'..'c' | "x";`))
	if got := byteset.Ranges(begins[0]); !slices.Equal(got, [][2]int{{'a', 'c'}, {'x', 'x'}}) {
		t.Errorf("P12.1: %v", got)
	}
	if got := byteset.Ranges(behind[1].Bytes); !slices.Equal(got, [][2]int{{'0', '9'}}) {
		t.Errorf("P12.2: %v", got)
	}
}
