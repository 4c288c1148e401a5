package check_test

import (
	"fmt"
	"math"
	"regexp"
	"slices"
	"strings"
	"testing"

	"temple/api"
	"temple/check"
	"temple/mean"
	"temple/samples"
)

var (
	ref, span   = samples.Ref, samples.Span
	row, rowNot = samples.Row, samples.RowNot
	rule, named = samples.Rule, samples.Named
)

// brief tells the beginning of something that may be long.
func brief(x any) string {
	return fmt.Sprintf("%.900s", fmt.Sprint(x))
}

// wantTaken: P19.1: a proof is taken, with a sign; P19.2: so each of its nodes is
// true.
func wantTaken(t *testing.T, g api.Grammar, w string, c api.Cert, sign bool) {
	t.Helper()
	if got, e := check.Check(g, w, c); got != sign || e != api.OK {
		t.Fatalf("P19.1: %s, %q: Check(%s) = %v, %d, not %v", brief(g), w, brief(c), got, e, sign)
	}
	wantTrue(t, g, w, c)
}

// wantTrue: P19.2: each node of a proof that was taken is as layer 11 says.
func wantTrue(t *testing.T, g api.Grammar, w string, c api.Cert) {
	t.Helper()
	x, _ := mean.New(g, w)
	m := newMaker(x, g, w, eachWay)
	for _, n := range c.Nodes {
		if m.has(aboutOf(n)) != n.Sign {
			t.Fatalf("P19.2: %s, %q: %s is taken, but not: %s", brief(g), w, brief(c), brief(n))
		}
	}
}

// wantNot: P19.1: a proof is not taken; R2: there is no sign beside the error.
func wantNot(t *testing.T, what string, g api.Grammar, w string, c api.Cert, want api.Errno) {
	t.Helper()
	if got, e := check.Check(g, w, c); got || e != want {
		t.Fatalf("P19.1: %s: %s, %q: Check(%s) = %v, %d, not %d", what, brief(g), w, brief(c), got, e, want)
	}
}

// wantFalse: P19.1: a proof is false.
func wantFalse(t *testing.T, what string, g api.Grammar, w string, c api.Cert) {
	t.Helper()
	wantNot(t, what, g, w, c, api.ErrCheckFalse)
}

// wantForm: P19.1: what is no question at all.
func wantForm(t *testing.T, what string, g api.Grammar, w string, c api.Cert) {
	t.Helper()
	wantNot(t, what, g, w, c, api.ErrCheckForm)
}

// pick is a pick of what is so, or of a rest that is not.
func pick(at int, kids ...int) api.Pick {
	return api.Pick{At: at, Kids: kids}
}

// failing is a pick of a name that has not its span.
func failing(rule, conj, kid int) api.Pick {
	return api.Pick{At: rule, Conj: conj, Kids: []int{kid}}
}

func name(number, i, j, rank int, picks ...api.Pick) api.Node {
	return api.Node{Sign: rank > 0, Kind: api.NodeName, Name: number, I: i, J: j, Rank: rank, Picks: picks}
}

func rest(rule, conj, pos, i, j, rank int, picks ...api.Pick) api.Node {
	return api.Node{Sign: rank > 0, Kind: api.NodeSeq, Place: api.Place{Rule: rule, Conj: conj, Pos: pos}, I: i, J: j, Rank: rank, Picks: picks}
}

// evens has texts of an even number of bytes 'a' and 'b', but not "ab".
func evens() api.Grammar {
	return samples.Read(`start S; S = E & ~ "ab"; E = "" | 'a'..'b' 'a'..'b' E;`)
}

// has is a proof that "ba" is in, its nodes mixed.
func has() api.Cert {
	return api.Cert{Root: 2, Nodes: []api.Node{
		rest(0, 0, 0, 0, 2, 7, pick(2, 3, 4)),
		rest(2, 0, 0, 0, 2, 5, pick(1, 6)),
		name(0, 0, 2, 8, pick(0, 0, 5)),
		name(1, 0, 2, 6, pick(2, 1)),
		rest(0, 0, 1, 2, 2, 1),
		rest(0, 1, 0, 0, 2, 0),
		rest(2, 0, 1, 1, 2, 4, pick(2, 7)),
		rest(2, 0, 2, 2, 2, 3, pick(2, 8, 9)),
		name(1, 2, 2, 2, pick(1, 10)),
		rest(2, 0, 3, 2, 2, 1),
		rest(1, 0, 0, 2, 2, 1),
	}}
}

// hasNot is a proof that "ab" is not.
func hasNot() api.Cert {
	return api.Cert{Nodes: []api.Node{
		name(0, 0, 2, 0, failing(0, 1, 1)),
		rest(0, 1, 0, 0, 2, 3, pick(1, 2)),
		rest(0, 1, 1, 1, 2, 2, pick(2, 3)),
		rest(0, 1, 2, 2, 2, 1),
	}}
}

// hasNotOdd is a proof that "b" is not.
func hasNotOdd() api.Cert {
	return api.Cert{Nodes: []api.Node{
		name(0, 0, 1, 0, failing(0, 0, 1)),
		rest(0, 0, 0, 0, 1, 0, pick(0, 2), pick(1, 4)),
		rest(0, 0, 1, 0, 1, 0),
		rest(1, 0, 0, 0, 1, 0),
		name(1, 0, 1, 0, failing(1, 0, 3), failing(2, 0, 5)),
		rest(2, 0, 0, 0, 1, 0, pick(1, 6)),
		rest(2, 0, 1, 1, 1, 0),
	}}
}

// TestWritten: proofs as one would write them.
func TestWritten(t *testing.T) {
	g := evens()
	wantTaken(t, g, "ba", has(), true)
	wantTaken(t, g, "ab", hasNot(), false)
	wantTaken(t, g, "b", hasNotOdd(), false)
	// What is proved of one text is not so of another one.
	wantFalse(t, "another text", g, "ab", has())
	wantFalse(t, "another text", g, "ba", hasNot())
	wantFalse(t, "another length", g, "a", has())
	wantFalse(t, "another length", g, "baa", has())
	wantFalse(t, "no bytes", g, "", has())
	wantFalse(t, "no nodes", g, "ba", api.Cert{})
	// Another start, and a grammar in which the names mean something else.
	g.Start = 1
	wantFalse(t, "another start", g, "ba", has())
	c := has()
	c.Root = 3
	wantTaken(t, g, "ba", c, true)
	wantFalse(t, "another grammar", samples.Plain(), "ba", has())
}

// meant is a grammar's text, and what its start has.
type meant struct {
	text string
	has  func(s string) bool
}

func texts() []meant {
	like := func(pattern string) func(s string) bool {
		return regexp.MustCompile(`^(?:` + pattern + `)$`).MatchString
	}
	never := func(string) bool { return false }
	return []meant{
		{`start S; S = "";`, like(``)},
		{`start S; S = "a" S | "";`, like(`a*`)},
		{`start S; S = S S | 'a'..'b' | "";`, like(`[ab]*`)},
		{`start S; S = ~ T; T = "a" T | "b";`, func(s string) bool { return !like(`a*b`)(s) }},
		{`start S; S = ~ T & ~ U; T = ~ U "a"; U = ~ "b";`, never},
		{`start S; S = S | T & ~ "aa" | S T S; T = "a" T | "";`, like(`a*`)},
		{`start S; S = T; T = S;`, never},
		{`start S; S = X C & A Y; X = "a" X "b" | ""; C = "c" C | ""; A = "a" A | ""; Y = "b" Y "c" | "";`, func(s string) bool {
			n := strings.Count(s, "a")
			return s == strings.Repeat("a", n)+strings.Repeat("b", n)+strings.Repeat("c", n)
		}},
		{`start S; S = "" | "a" S | 'b'..'c' S & ~ U; U = A "cc" A; A = "" | 'a'..'c' A;`, func(s string) bool {
			return like(`[abc]*`)(s) && !strings.Contains(strings.TrimLeft(s, "a"), "cc")
		}},
	}
}

// TestTaken: proofs of both signs are taken, with few nodes and with many, in
// any row, with nodes that nothing needs.
func TestTaken(t *testing.T) {
	r := samples.Numbers(191)
	in, out := 0, 0
	for _, x := range texts() {
		g := samples.Read(x.text)
		for _, w := range []string{"", "a", "b", "c", "aa", "ab", "ba", "abc", "bcc", "aab", "aaa", "aabbcc", "abcab", "bacca", "aaaaaaa", "\x00\xff"} {
			for _, c := range proofs(&r, g, w) {
				wantTaken(t, g, w, c, x.has(w))
				wantTaken(t, g, w, mixedRow(&r, c), x.has(w))
			}
			if x.has(w) {
				in++
			} else {
				out++
			}
		}
	}
	if in < 40 || out < 40 {
		t.Errorf("%d in, %d not", in, out)
	}
}

// TestLongTexts: of any length that may be there are proofs.
func TestLongTexts(t *testing.T) {
	r := samples.Numbers(192)
	both := samples.Read(`start S; S = A S | B | "" & ~ "x"; A = 'a'..'b'; B = "c" & ~ A;`)
	for _, g := range []api.Grammar{evens(), both} {
		for n := range api.MaxInput + 1 {
			w := strings.Repeat("a", n)
			has := n%2 == 0 || g.Names[1] == "A"
			x, _ := mean.New(g, w)
			for _, c := range []api.Cert{newMaker(x, g, w, oneWay).from(), newMaker(x, g, w, mixedWays(&r)).all()} {
				wantTaken(t, g, w, mixedRow(&r, c), has)
			}
		}
	}
}

func TestWhatMayNotBe(t *testing.T) {
	for _, s := range samples.MayNotBe() {
		wantForm(t, s.What, s.Grammar, "ba", has())
		wantForm(t, s.What, s.Grammar, "", api.Cert{})
	}
	for _, s := range samples.Great() {
		wantForm(t, s.What, s.Grammar, "ba", has())
	}
}

// TestCycles: of a grammar in which not to be so makes it so there is no proof,
// not even of what other rules say.
func TestCycles(t *testing.T) {
	empty := api.Cert{Nodes: []api.Node{name(0, 0, 0, 2, pick(0, 1)), rest(0, 0, 0, 0, 0, 1)}}
	wantTaken(t, named(1, rule(0, row())), "", empty, true)
	wantForm(t, "a cycle in another rule", named(1, rule(0, row()), rule(0, rowNot(ref(0)))), "", empty)
	wantForm(t, "a cycle of other names", named(3, rule(0, row()), rule(1, row(ref(2))), rule(2, rowNot(ref(1)))), "", empty)
	wantForm(t, "a false proof", named(1, rule(0, rowNot(ref(0)))), "a", api.Cert{})
	// A cycle without a negation, and a negation without a cycle, are none.
	wantTaken(t, named(3, rule(0, row()), rule(1, row(ref(2))), rule(2, row(ref(1)))), "", empty, true)
	wantTaken(t, named(2, rule(0, row()), rule(1, rowNot(ref(0)))), "", empty, true)
}

// TestTextTooLong: just above as many bytes as may be, whatever they are.
func TestTextTooLong(t *testing.T) {
	any := samples.Read(`start S; S = "" | '\x00'..'\xff' S;`)
	for _, piece := range []string{"a", "\x00", "\xff", "é"} {
		w := strings.Repeat(piece, api.MaxInput/len(piece))
		x, _ := mean.New(any, w)
		c := newMaker(x, any, w, oneWay).from()
		wantTaken(t, any, w, c, true)
		// At just as many bytes what is false is false, not too long.
		wantFalse(t, "as long as may be", any, w, api.Cert{})
		for _, n := range []int{1, 2, api.MaxInput, api.MaxText, 1 << 20} {
			wantForm(t, "too long", any, w+strings.Repeat("a", n), c)
			wantForm(t, "too long", any, w+strings.Repeat("a", n), api.Cert{})
		}
	}
}

// leaves is a grammar of more rests than there may be nodes, and a proof that its
// start has not the text, of so many nodes.
func leaves(nodes int) (api.Grammar, string, api.Cert) {
	g, w := named(1), strings.Repeat("a", api.MaxInput)
	for range api.MaxRules {
		g.Rules = append(g.Rules, rule(0, slices.Repeat([]api.Conjunct{row()}, api.MaxConj)...))
	}
	x, _ := mean.New(g, w)
	m := newMaker(x, g, w, oneWay)
	c := m.from()
	for r := range g.Rules {
		for conj := 1; conj < api.MaxConj; conj++ {
			for i := range len(w) {
				if len(m.nodes) < nodes {
					m.node(ofRest(api.Place{Rule: r, Conj: conj}, i, len(w)))
				}
			}
		}
	}
	for i := range len(w) + 1 {
		for r := range g.Rules {
			if len(m.nodes) < nodes {
				m.node(ofRest(api.Place{Rule: r}, i, i))
			}
		}
	}
	c.Nodes = m.nodes
	return g, w, c
}

// TestMostNodes: as many nodes as may be are taken, one more is not asked for.
func TestMostNodes(t *testing.T) {
	for _, nodes := range []int{1000, api.MaxNodes - 1, api.MaxNodes} {
		g, w, c := leaves(nodes)
		if len(c.Nodes) != nodes {
			t.Fatalf("%d nodes, not %d", len(c.Nodes), nodes)
		}
		wantTaken(t, g, w, c, false)
		c.Nodes[nodes-1].Name++
		wantFalse(t, "the last node", g, w, c)
	}
	for _, nodes := range []int{api.MaxNodes + 1, api.MaxNodes + 2} {
		g, w, c := leaves(nodes)
		wantForm(t, "too many nodes", g, w, c)
		c.Nodes[0].Sign = true
		wantForm(t, "too many nodes", g, w, c)
	}
	wantFalse(t, "as many as may be", evens(), "ba", api.Cert{Nodes: make([]api.Node, api.MaxNodes)})
	for _, nodes := range []int{api.MaxNodes + 1, 2 * api.MaxNodes, 1 << 22} {
		wantForm(t, "too many nodes", evens(), "ba", api.Cert{Nodes: make([]api.Node, nodes)})
	}
}

// TestWhichError: R6: what is false as well is told to be no question first.
func TestWhichError(t *testing.T) {
	long := strings.Repeat("a", api.MaxInput+1)
	much := api.Cert{Root: -1, Nodes: make([]api.Node, api.MaxNodes+1)}
	cycle := named(1, rule(0, rowNot(ref(0))))
	for _, c := range []api.Cert{{}, {Root: -1}, {Root: math.MaxInt}, has(), much} {
		for _, w := range []string{"", "ba", long} {
			for _, g := range []api.Grammar{evens(), cycle, {}} {
				switch {
				case w == long || len(c.Nodes) > api.MaxNodes || len(g.Names) < 2:
					wantForm(t, "both", g, w, c)
				case w == "ba" && len(c.Nodes) > 0:
					wantTaken(t, g, w, c, true)
				default:
					wantFalse(t, "one", g, w, c)
				}
			}
		}
	}
}
