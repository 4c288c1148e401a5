package check_test

import (
	"math"
	"testing"

	"temple/api"
	"temple/mean"
	"temple/samples"
)

// parts is a grammar with, among the spans of "ab", each sign and kind of node
// that there is. Its rules are 0 to 2 of S, 3 and 4 of A, 5 and 6 of B, 7 of C, 8
// and 9 of D.
const parts = `start S;
	S = A B & ~ C | A A | C;
	A = "a" | "";
	B = 'b'..'c' | A;
	C = A "x";
	D = A & ~ "a" | B & A;`

const (
	nameS = iota
	nameA
	nameB
	nameC
	nameD
)

// seq is the rest at a place, and a span.
func seq(rule, conj, pos, i, j int) about {
	return ofRest(api.Place{Rule: rule, Conj: conj, Pos: pos}, i, j)
}

// bent is a change of one node, and whether the proof is taken then.
type bent struct {
	what   string
	node   about
	change func(n *api.Node)
	taken  bool
}

// whole is the proof of all that there is to say of the parts and "ab", and which
// node is where.
func whole() (api.Grammar, api.Cert, map[about]int) {
	g := samples.Read(parts)
	x, _ := mean.New(g, "ab")
	m := newMaker(x, g, "ab", eachWay)
	c := m.all()
	return g, c, m.at
}

// wantBent: P19.1: what of all changes is taken, and what is not.
func wantBent(t *testing.T, rows []bent) {
	t.Helper()
	g, c, at := whole()
	for _, x := range rows {
		d := clone(c)
		x.change(&d.Nodes[at[x.node]])
		if x.taken {
			if !wantAgain(t, x.what, g, "ab", d) {
				t.Errorf("P19.1: %s: not taken", x.what)
			}
		} else {
			wantFalse(t, x.what, g, "ab", d)
		}
	}
}

// picks changes a node's picks to others.
func picks(others ...api.Pick) func(n *api.Node) {
	return func(n *api.Node) { n.Picks = others }
}

// higher changes a node's picks to others, and its rank to one that is above all
// others.
func higher(others ...api.Pick) func(n *api.Node) {
	return func(n *api.Node) { n.Rank, n.Picks = 99, others }
}

// TestRulesThatHold: picks of names that have their span. "a" is an S by A B and
// not C, where A is nothing or "a", and by A A.
func TestRulesThatHold(t *testing.T) {
	_, c, at := whole()
	s := ofName(nameS, 0, 1)
	first, second := c.Nodes[at[s]].Picks[0], c.Nodes[at[s]].Picks[1]
	if first.At != 0 || second.At != 1 || len(first.Kids) != 2 || len(second.Kids) != 1 {
		t.Fatalf("%v", c.Nodes[at[s]])
	}
	with := func(k int, kid about) func(n *api.Node) {
		return func(n *api.Node) { n.Picks[0].Kids[k] = at[kid] }
	}
	wantBent(t, []bent{
		{"as it is", s, func(*api.Node) {}, true},
		{"the first rule alone", s, higher(first), true},
		{"the first rule alone, its rank too low", s, picks(first), false},
		{"the second rule alone", s, picks(second), true},
		{"no rule", s, picks(), false},
		{"rules that fall", s, picks(second, first), false},
		{"a rule twice", s, picks(first, first), false},
		{"a rule twice, and another one", s, picks(first, second, second), false},
		{"a rule that fails", s, picks(first, second, pick(2, at[seq(2, 0, 0, 0, 1)])), false},
		{"another name's rule", s, picks(pick(3, at[seq(3, 0, 0, 0, 1)])), false},
		{"another name's rule, too", s, picks(first, pick(6, at[seq(6, 0, 0, 0, 1)])), false},
		{"a rule below", s, picks(pick(-1, first.Kids...), first), false},
		{"a rule above", s, picks(first, pick(10, second.Kids...)), false},
		{"a rule far below", s, picks(pick(math.MinInt)), false},
		{"a rule far above", s, picks(pick(math.MaxInt)), false},
		{"the kids of another rule", s, picks(pick(0, second.Kids...)), false},
		{"another Conj", s, picks(api.Pick{At: 0, Conj: 1, Kids: first.Kids}), false},
		{"another Conj below", s, picks(api.Pick{At: 0, Conj: -1, Kids: first.Kids}), false},
		{"another Conj of the second one", s, picks(first, api.Pick{At: 1, Conj: 1, Kids: second.Kids}), false},
		{"no kids", s, picks(pick(0)), false},
		{"a kid too few", s, picks(pick(0, first.Kids[0])), false},
		{"the last kid alone", s, picks(pick(0, first.Kids[1])), false},
		{"a kid too many", s, picks(pick(0, first.Kids[0], first.Kids[1], first.Kids[1])), false},
		{"a kid of another rule too many", s, picks(pick(0, first.Kids[0], first.Kids[1], second.Kids[0])), false},
		{"a kid in another row", s, picks(pick(0, first.Kids[1], first.Kids[0])), false},
		{"a kid twice", s, picks(pick(0, first.Kids[0], first.Kids[0])), false},
		{"a kid of another span", s, with(0, seq(0, 0, 0, 0, 0)), false},
		{"a kid of another span's end", s, with(0, seq(0, 0, 0, 0, 2)), false},
		{"a negated kid of another span", s, with(1, seq(0, 1, 0, 1, 1)), false},
		{"a kid one place on", s, with(0, seq(0, 0, 1, 0, 1)), false},
		{"a kid of another rule", s, with(0, seq(1, 0, 0, 0, 1)), false},
		{"a kid of a name", s, with(1, ofName(nameC, 0, 1)), false},
		{"a kid below", s, func(n *api.Node) { n.Picks[0].Kids[0] = -1 }, false},
		{"a kid above", s, func(n *api.Node) { n.Picks[0].Kids[1] = len(c.Nodes) }, false},
		{"a kid far below", s, func(n *api.Node) { n.Picks[1].Kids[0] = math.MinInt }, false},
		{"a kid far above", s, func(n *api.Node) { n.Picks[1].Kids[0] = math.MaxInt }, false},
		// Of "a" D's first rule fails, as what is negated is so.
		{"a negated kid that is so", ofName(nameD, 0, 1), func(n *api.Node) {
			n.Sign, n.Rank, n.Picks = true, 9, []api.Pick{pick(8, at[seq(8, 0, 0, 0, 1)], at[seq(8, 1, 0, 0, 1)])}
		}, false},
		{"a kid that is not so", ofName(nameD, 0, 2), func(n *api.Node) {
			n.Sign, n.Rank, n.Picks = true, 9, []api.Pick{pick(8, at[seq(8, 0, 0, 0, 2)], at[seq(8, 1, 0, 0, 2)])}
		}, false},
	})
}

// TestRulesThatFail: picks of names that have not their span. D has not "ab": of
// its first rule the first conjunct fails alone, of its second one both do.
func TestRulesThatFail(t *testing.T) {
	_, c, at := whole()
	d, e, s := ofName(nameD, 0, 2), ofName(nameA, 0, 2), ofName(nameC, 0, 2)
	kid := func(rule, conj int) int { return at[seq(rule, conj, 0, 0, 2)] }
	first := failing(8, 0, kid(8, 0))
	left, right := failing(9, 0, kid(9, 0)), failing(9, 1, kid(9, 1))
	wantBent(t, []bent{
		{"as it is", d, picks(first, left), true},
		{"another conjunct that fails", d, picks(first, right), true},
		{"no rule", d, picks(), false},
		{"a rule too few", d, picks(first), false},
		{"the first rule too few", d, picks(left), false},
		{"rules that fall", d, picks(left, first), false},
		{"a rule twice", d, picks(first, first, left), false},
		{"a rule too many", d, picks(first, left, right), false},
		{"another rule for one", d, picks(first, failing(7, 0, kid(7, 0))), false},
		{"another name's rule too many", d, picks(first, left, failing(3, 0, kid(3, 0))), false},
		{"another name's rule ahead", d, picks(failing(3, 0, kid(3, 0)), first, left), false},
		{"a rule above", d, picks(first, failing(10, 0, kid(9, 0))), false},
		{"a rule below", d, picks(failing(-1, 0, kid(8, 0)), left), false},
		{"a rule far above", d, picks(first, failing(math.MaxInt, 0, kid(9, 0))), false},
		{"a conjunct below", d, picks(first, failing(9, -1, kid(9, 0))), false},
		{"a conjunct above", d, picks(first, failing(9, 2, kid(9, 0))), false},
		{"a conjunct far above", d, picks(first, failing(9, math.MaxInt, kid(9, 0))), false},
		{"a conjunct far below", d, picks(first, failing(9, math.MinInt, kid(9, 0))), false},
		{"another conjunct's kid", d, picks(first, failing(9, 0, kid(9, 1))), false},
		{"a conjunct that does not fail", d, picks(failing(8, 1, kid(8, 1)), left), false},
		{"another rule's kid", d, picks(failing(8, 0, kid(9, 1)), left), false},
		{"no kid", d, picks(first, api.Pick{At: 9}), false},
		{"a kid too many", d, picks(first, pick(9, kid(9, 0), kid(9, 1))), false},
		{"a kid twice", d, picks(first, pick(9, kid(9, 0), kid(9, 0))), false},
		{"a kid of another span", d, picks(first, failing(9, 0, at[seq(9, 0, 0, 1, 2)])), false},
		{"a kid of another span that fails", d, picks(failing(8, 0, at[seq(8, 0, 0, 1, 2)]), left), false},
		{"a kid one place on", d, picks(first, failing(9, 0, at[seq(9, 0, 1, 0, 2)])), false},
		{"a kid of a name", d, picks(first, failing(9, 1, at[e])), false},
		{"a kid below", d, picks(first, failing(9, 0, -1)), false},
		{"a kid above", d, picks(first, failing(9, 0, len(c.Nodes))), false},
		// C has one rule.
		{"the only rule", s, picks(failing(7, 0, kid(7, 0))), true},
		{"none of one", s, picks(), false},
		// Of "a" the negated conjunct is so, the other one, too.
		{"a negated conjunct", ofName(nameD, 0, 1), func(n *api.Node) {
			n.Sign, n.Rank = false, 0
			n.Picks = []api.Pick{failing(8, 1, at[seq(8, 1, 0, 0, 1)]), failing(9, 0, at[seq(9, 0, 0, 0, 1)])}
		}, false},
		{"a negated conjunct that is not so", ofName(nameS, 1, 2), func(n *api.Node) {
			n.Sign, n.Rank = false, 0
			n.Picks = []api.Pick{failing(0, 1, at[seq(0, 1, 0, 1, 2)]), failing(1, 0, at[seq(1, 0, 0, 1, 2)]), failing(2, 0, at[seq(2, 0, 0, 1, 2)])}
		}, false},
	})
}

// TestNegatedThatIsSo: a name has not its span, as what is negated is so.
func TestNegatedThatIsSo(t *testing.T) {
	g := samples.Read(`start S; S = "a" & ~ T & ~ "b"; T = "a";`)
	x, _ := mean.New(g, "a")
	m := newMaker(x, g, "a", oneWay)
	c := m.from()
	root := &c.Nodes[c.Root]
	if !wantAgain(t, "as it is", g, "a", c) || root.Sign || root.Picks[0].Conj != 1 {
		t.Fatalf("%v", c)
	}
	m.node(seq(0, 0, 0, 0, 1))
	m.node(seq(0, 2, 0, 0, 1))
	m.fill(len(c.Nodes))
	c = api.Cert{Root: c.Root, Nodes: m.nodes}
	if !wantAgain(t, "with more nodes", g, "a", c) {
		t.Fatalf("%v", c)
	}
	for conj := range 3 {
		c.Nodes[c.Root].Picks = []api.Pick{failing(0, conj, m.at[seq(0, conj, 0, 0, 1)])}
		if wantAgain(t, "a conjunct", g, "a", c) != (conj == 1) {
			t.Errorf("P19.1: conjunct %d", conj)
		}
	}
}

// TestEnds: at its end a rest has just the spans of no bytes, and leans on
// nothing.
func TestEnds(t *testing.T) {
	_, _, at := whole()
	for i := range 3 {
		for j := i; j < 3; j++ {
			for _, end := range []about{seq(0, 0, 2, i, j), seq(0, 1, 1, i, j), seq(3, 0, 1, i, j), seq(4, 0, 0, i, j), seq(9, 1, 1, i, j)} {
				wantBent(t, []bent{
					{"as it is", end, func(*api.Node) {}, true},
					{"the other sign", end, func(n *api.Node) { n.Sign = !n.Sign }, false},
					{"the other sign and its rank", end, func(n *api.Node) { n.Sign, n.Rank = !n.Sign, 1-n.Rank }, false},
					{"a pick", end, picks(api.Pick{}), false},
					{"a pick without kids", end, picks(pick(i)), false},
					{"a pick of itself", end, picks(pick(i, at[end])), false},
					{"a pick one on", end, picks(pick(i+1, at[seq(0, 0, 2, j, j)])), false},
				})
			}
		}
	}
}

// TestRanges: at a range there is one way on, or none.
func TestRanges(t *testing.T) {
	_, c, at := whole()
	is := func(n *api.Node) { n.Sign, n.Rank = true, 1 }
	isBy := func(p api.Pick) func(n *api.Node) {
		return func(n *api.Node) { n.Sign, n.Rank, n.Picks = true, 5, []api.Pick{p} }
	}
	over := func(node, kid about, i int) []bent {
		x := at[kid]
		return []bent{
			{"as it is", node, picks(pick(i+1, x)), true},
			{"no pick", node, picks(), false},
			{"a pick twice", node, picks(pick(i+1, x), pick(i+1, x)), false},
			{"a pick more", node, picks(pick(i+1, x), pick(i+2, x)), false},
			{"a pick more ahead", node, picks(pick(i, x), pick(i+1, x)), false},
			{"At where it begins", node, picks(pick(i, x)), false},
			{"At one too far", node, picks(pick(i+2, x)), false},
			{"At nothing", node, picks(pick(0, x)), false},
			{"At below", node, picks(pick(-1, x)), false},
			{"another Conj", node, picks(failing(i+1, 1, x)), false},
			{"another Conj below", node, picks(failing(i+1, -1, x)), false},
			{"no kid", node, picks(pick(i + 1)), false},
			{"a kid too many", node, picks(pick(i+1, x, x)), false},
			{"itself as a kid", node, picks(pick(i+1, at[node])), false},
			{"a kid below", node, picks(pick(i+1, -1)), false},
			{"a kid above", node, picks(pick(i+1, len(c.Nodes))), false},
			{"the other sign", node, func(n *api.Node) { n.Sign = !n.Sign }, false},
			{"the other sign and a rank", node, func(n *api.Node) { n.Sign, n.Rank = !n.Sign, 5-n.Rank }, false},
			{"the other sign and nothing", node, func(n *api.Node) { n.Sign, n.Rank, n.Picks = !n.Sign, 0, nil }, false},
		}
	}
	in, out := seq(5, 0, 0, 1, 2), seq(3, 0, 0, 0, 2)
	wantBent(t, over(in, seq(5, 0, 1, 2, 2), 1))
	wantBent(t, over(out, seq(3, 0, 1, 1, 2), 0))
	wantBent(t, []bent{
		{"a kid of another span", in, picks(pick(2, at[seq(5, 0, 1, 1, 1)])), false},
		{"a kid of another rule", in, picks(pick(2, at[seq(3, 0, 1, 2, 2)])), false},
		{"a kid of another span that fails", out, picks(pick(1, at[seq(3, 0, 1, 0, 2)])), false},
		{"a kid of a longer span", out, picks(pick(1, at[seq(3, 0, 1, 0, 1)])), false},
		{"a kid that is so", out, isBy(pick(1, at[seq(3, 0, 1, 1, 1)])), false},
		{"what is not so", out, isBy(pick(1, at[seq(3, 0, 1, 1, 2)])), false},
	})
	// No byte comes, or one beside the range.
	for _, i := range []int{0, 1, 2} {
		empty := seq(5, 0, 0, i, i)
		wantBent(t, []bent{
			{"as it is", empty, func(*api.Node) {}, true},
			{"no byte", empty, is, false},
			{"no byte, one on", empty, picks(pick(i+1, at[seq(5, 0, 1, i, i)])), false},
			{"no byte, and not there", empty, picks(pick(i, at[seq(5, 0, 1, i, i)])), false},
			{"no byte, but so", empty, isBy(pick(i+1, at[seq(5, 0, 1, i, i)])), false},
		})
	}
	for _, beside := range []struct{ node, kid about }{
		{seq(5, 0, 0, 0, 1), seq(5, 0, 1, 1, 1)},
		{seq(3, 0, 0, 1, 2), seq(3, 0, 1, 2, 2)},
		{seq(5, 0, 0, 0, 2), seq(5, 0, 1, 1, 2)},
		{seq(7, 0, 1, 0, 2), seq(7, 0, 2, 1, 2)},
	} {
		wantBent(t, []bent{
			{"as it is", beside.node, picks(), true},
			{"a byte beside", beside.node, picks(pick(beside.node.i+1, at[beside.kid])), false},
			{"a byte beside, so", beside.node, isBy(pick(beside.node.i+1, at[beside.kid])), false},
			{"a byte beside, so without a pick", beside.node, is, false},
		})
	}
}

// TestEndsOfRanges: which bytes are in a range.
func TestEndsOfRanges(t *testing.T) {
	for _, ends := range [][2]int{{0, 0}, {0, 255}, {255, 255}, {'b', 'c'}, {127, 128}} {
		g := named(1, rule(0, row(span(ends[0], ends[1]))))
		for b := range 256 {
			w, in := string([]byte{byte(b)}), ends[0] <= b && b <= ends[1]
			so := api.Cert{Nodes: []api.Node{name(0, 0, 1, 3, pick(0, 1)), rest(0, 0, 0, 0, 1, 2, pick(1, 2)), rest(0, 0, 1, 1, 1, 1)}}
			not := api.Cert{Nodes: []api.Node{name(0, 0, 1, 0, failing(0, 0, 1)), rest(0, 0, 0, 0, 1, 0)}}
			if in {
				wantTaken(t, g, w, so, true)
				wantFalse(t, "a byte in it", g, w, not)
			} else {
				wantTaken(t, g, w, not, false)
				wantFalse(t, "a byte beside it", g, w, so)
			}
		}
	}
}

// TestSplits: at a name, of what is so. "a" is A B where A is nothing, and where
// it is "a".
func TestSplits(t *testing.T) {
	_, c, at := whole()
	ab := seq(0, 0, 0, 0, 1)
	left, right := c.Nodes[at[ab]].Picks[0], c.Nodes[at[ab]].Picks[1]
	if left.At != 0 || right.At != 1 {
		t.Fatalf("%v", c.Nodes[at[ab]])
	}
	a, b := right.Kids[0], right.Kids[1]
	whole := seq(0, 0, 0, 0, 2)
	only := c.Nodes[at[whole]].Picks[0]
	wantBent(t, []bent{
		{"as it is", ab, func(*api.Node) {}, true},
		{"the first alone", ab, higher(left), true},
		{"the first alone, its rank too low", ab, picks(left), false},
		{"the second alone", ab, picks(right), true},
		{"none", ab, picks(), false},
		{"in another row", ab, picks(right, left), false},
		{"one twice", ab, picks(left, left, right), false},
		{"the last twice", ab, picks(left, right, right), false},
		{"At another point", ab, picks(pick(0, right.Kids...)), false},
		{"At below", ab, picks(pick(-1, left.Kids...), right), false},
		{"At above", ab, picks(left, pick(2, right.Kids...)), false},
		{"At far above", ab, picks(pick(math.MaxInt, right.Kids...)), false},
		{"At far below", ab, picks(pick(math.MinInt, right.Kids...)), false},
		{"At above, with its own kids", ab, picks(pick(2, at[ofName(nameA, 0, 2)], at[seq(0, 0, 1, 2, 2)])), false},
		{"another Conj", ab, picks(left, api.Pick{At: 1, Conj: 1, Kids: right.Kids}), false},
		{"another Conj below", ab, picks(api.Pick{Conj: -1, Kids: left.Kids}), false},
		{"no kids", ab, picks(left, pick(1)), false},
		{"the name alone", ab, picks(pick(1, a)), false},
		{"the rest alone", ab, picks(pick(1, b)), false},
		{"a kid too many", ab, picks(pick(1, a, b, b)), false},
		{"kids in another row", ab, picks(pick(1, b, a)), false},
		{"the name twice", ab, picks(pick(1, a, a)), false},
		{"another name", ab, picks(pick(1, at[ofName(nameB, 0, 1)], b)), false},
		{"another name's span", ab, picks(pick(1, at[ofName(nameA, 0, 0)], b)), false},
		{"another rest's span", ab, picks(pick(1, a, left.Kids[1])), false},
		{"another rest", ab, picks(pick(1, a, at[seq(1, 0, 1, 1, 1)])), false},
		{"a rest two places on", ab, picks(pick(1, a, at[seq(0, 0, 2, 1, 1)])), false},
		{"a name that has not its span", whole, picks(only, pick(2, at[ofName(nameA, 0, 2)], at[seq(0, 0, 1, 2, 2)])), false},
		{"a rest that has not its span", whole, picks(pick(0, at[ofName(nameA, 0, 0)], at[seq(0, 0, 1, 0, 2)]), only), false},
		{"a kid below", ab, picks(pick(1, -1, b)), false},
		{"a kid above", ab, picks(pick(1, a, len(c.Nodes))), false},
		{"a kid far above", ab, picks(pick(1, math.MaxInt, b)), false},
		{"a kid far below", ab, picks(pick(1, a, math.MinInt)), false},
	})
}

// TestSplitsThatFail: at a name, of what is not so. "ab" is not A "x": where A is
// nothing or "a", no "x" comes; "ab" is no A, and no "x" comes then, either.
func TestSplitsThatFail(t *testing.T) {
	_, c, at := whole()
	ax := seq(7, 0, 0, 0, 2)
	x := func(i int) int { return at[seq(7, 0, 1, i, 2)] }
	a := func(j int) int { return at[ofName(nameA, 0, j)] }
	first, second, third := pick(0, x(0)), pick(1, x(1)), pick(2, x(2))
	wantBent(t, []bent{
		{"the rests", ax, picks(first, second, third), true},
		{"a name", ax, picks(first, second, pick(2, a(2))), true},
		{"none", ax, picks(), false},
		{"the first too few", ax, picks(second, third), false},
		{"the second too few", ax, picks(first, third), false},
		{"the last too few", ax, picks(first, second), false},
		{"one too many", ax, picks(first, second, third, third), false},
		{"one too many, At one on", ax, picks(first, second, third, pick(3, x(2))), false},
		{"one too many ahead", ax, picks(pick(-1, x(0)), first, second, third), false},
		{"one twice for another one", ax, picks(first, first, third), false},
		{"one twice for another one ahead", ax, picks(first, third, third), false},
		{"one twice for the first", ax, picks(second, second, third), false},
		{"the last for all", ax, picks(third, third, third), false},
		{"in another row", ax, picks(second, first, third), false},
		{"the last ones in another row", ax, picks(first, third, second), false},
		{"At another point", ax, picks(first, pick(2, x(1)), third), false},
		{"At above", ax, picks(first, second, pick(3, x(2))), false},
		{"At below", ax, picks(pick(-1, x(0)), second, third), false},
		{"another Conj", ax, picks(first, failing(1, 1, x(1)), third), false},
		{"another Conj below", ax, picks(first, failing(1, -1, x(1)), third), false},
		{"no kid", ax, picks(first, second, pick(2)), false},
		{"both as kids", ax, picks(first, second, pick(2, a(2), x(2))), false},
		{"a kid twice", ax, picks(first, second, pick(2, x(2), x(2))), false},
		{"a name that has its span", ax, picks(pick(0, a(0)), second, third), false},
		{"another name that has it not", ax, picks(first, second, pick(2, at[ofName(nameC, 0, 2)])), false},
		{"a name of another span", ax, picks(pick(0, a(2)), second, third), false},
		{"a name from elsewhere", ax, picks(first, second, pick(2, at[ofName(nameA, 1, 2)])), false},
		{"a rest of another span", ax, picks(first, pick(1, x(0)), third), false},
		{"a rest to elsewhere", ax, picks(pick(0, at[seq(7, 0, 1, 0, 1)]), second, third), false},
		{"a rest two places on", ax, picks(pick(0, at[seq(7, 0, 2, 0, 2)]), second, third), false},
		{"another rest", ax, picks(pick(0, at[seq(3, 0, 1, 0, 2)]), second, third), false},
		{"itself", ax, picks(pick(0, at[ax]), second, third), false},
		{"a kid below", ax, picks(pick(0, -1), second, third), false},
		{"a kid above", ax, picks(pick(0, len(c.Nodes)), second, third), false},
	})
	// Where only the rest, or only the name, is not so.
	aa := seq(1, 0, 0, 0, 2)
	second, third = pick(1, at[seq(1, 0, 1, 1, 2)]), pick(2, a(2))
	wantBent(t, []bent{
		{"as it is", aa, picks(pick(0, at[seq(1, 0, 1, 0, 2)]), second, third), true},
		{"a name that is so", aa, picks(pick(0, a(0)), second, third), false},
		{"a rest that is so", aa, picks(pick(0, at[seq(1, 0, 1, 0, 2)]), second, pick(2, at[seq(1, 0, 1, 2, 2)])), false},
	})
}

// TestAboutNothing: nodes that nothing needs, of what there is not to say.
func TestAboutNothing(t *testing.T) {
	g, c, _ := whole()
	end := rest(0, 0, 2, 0, 1, 0)
	drop := func(n api.Node) api.Cert {
		d := clone(c)
		d.Nodes = append(d.Nodes, n)
		return d
	}
	wantFalse(t, "a node that there is already", g, "ab", drop(end))
	for _, x := range []struct {
		what   string
		change func(n *api.Node)
	}{
		{"a kind above", func(n *api.Node) { n.Kind = 2 }},
		{"a kind below", func(n *api.Node) { n.Kind = -1 }},
		{"a kind far above", func(n *api.Node) { n.Kind = 1 << 32 }},
		{"the other kind", func(n *api.Node) { n.Kind = api.NodeName }},
		{"a name of a rest", func(n *api.Node) { n.Name = 1 }},
		{"a name of a rest below", func(n *api.Node) { n.Name = -1 }},
		{"a rule above", func(n *api.Node) { n.Place.Rule = 10 }},
		{"a rule below", func(n *api.Node) { n.Place.Rule = -1 }},
		{"a conjunct above", func(n *api.Node) { n.Place.Conj = 2 }},
		{"a conjunct below", func(n *api.Node) { n.Place.Conj = -1 }},
		{"a pos above", func(n *api.Node) { n.Place.Pos = 3 }},
		{"a pos below", func(n *api.Node) { n.Place.Pos = -1 }},
		{"I above J", func(n *api.Node) { n.I = 2 }},
		{"I below", func(n *api.Node) { n.I = -1 }},
		{"J above", func(n *api.Node) { n.J = 3 }},
		{"both above", func(n *api.Node) { n.I, n.J, n.Sign, n.Rank = 3, 3, true, 1 }},
		{"both below", func(n *api.Node) { n.I, n.J, n.Sign, n.Rank = -1, -1, true, 1 }},
		{"far numbers", func(n *api.Node) { n.I, n.J = math.MinInt, math.MaxInt }},
	} {
		n := end
		x.change(&n)
		wantFalse(t, x.what, g, "ab", drop(n))
	}
	for _, number := range []int{-1, 5, 6, math.MaxInt, math.MinInt} {
		wantFalse(t, "a name", g, "ab", drop(name(number, 0, 1, 0)))
		wantFalse(t, "a name", g, "ab", drop(name(number, 0, 1, 1)))
	}
	// What has a place, but is a name.
	d := clone(c)
	for i := range d.Nodes {
		if n := &d.Nodes[i]; n.Kind == api.NodeName {
			for _, at := range []*int{&n.Place.Rule, &n.Place.Conj, &n.Place.Pos} {
				for _, v := range []int{1, -1} {
					*at = v
					wantFalse(t, "a name's place", g, "ab", d)
				}
				*at = 0
			}
		}
	}
	wantAgain(t, "as it is", g, "ab", d)
}

// fewer is the proof of all that there is to say, without a node that nothing
// needs, and that node.
func fewer(k about) (api.Grammar, api.Cert, api.Node) {
	g, c, at := whole()
	last := len(c.Nodes) - 1
	n := c.Nodes[at[k]]
	c.Nodes[at[k]] = c.Nodes[last]
	for _, x := range c.Nodes {
		for _, p := range x.Picks {
			for i, kid := range p.Kids {
				if kid == last {
					p.Kids[i] = at[k]
				}
			}
		}
	}
	if c.Root == last {
		c.Root = at[k]
	}
	c.Nodes = c.Nodes[:last]
	return g, c, n
}

// TestNeeded: a node that nothing needs may be left out; it may not say anything
// that is not so, either.
func TestNeeded(t *testing.T) {
	d := ofName(nameD, 0, 2)
	g, c, n := fewer(d)
	wantTaken(t, g, "ab", c, true)
	c.Nodes = append(c.Nodes, n)
	wantTaken(t, g, "ab", c, true)
	c.Nodes[len(c.Nodes)-1].Sign = true
	wantFalse(t, "what nothing needs", g, "ab", c)
	c.Nodes[len(c.Nodes)-1].Rank = 9
	wantFalse(t, "what nothing needs", g, "ab", c)
	c.Nodes[len(c.Nodes)-1].Picks = nil
	wantFalse(t, "what nothing needs", g, "ab", c)
}
