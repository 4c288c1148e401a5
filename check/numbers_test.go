package check_test

import (
	"math"
	"slices"
	"testing"

	"temple/api"
	"temple/mean"
	"temple/samples"
)

// written is proofs in which each number but ranks can be just what it is.
func written() []struct {
	w string
	c api.Cert
} {
	return []struct {
		w string
		c api.Cert
	}{{"ba", has()}, {"ab", hasNot()}, {"b", hasNotOdd()}}
}

// others is numbers that are not n: small ones, those beside it, those that have
// the same lowest bits, the least and the greatest.
func others(n int) []int {
	out := []int{n - 1, n + 1, -n, ^n, n + 1<<8, n + 1<<16, n + 1<<32, n - 1<<32, n ^ math.MinInt, math.MinInt, math.MaxInt}
	for k := range 40 {
		out = append(out, k-8)
	}
	return slices.DeleteFunc(out, func(k int) bool { return k == n })
}

// TestEachNumber: each number is what it must be, and nothing else.
func TestEachNumber(t *testing.T) {
	for _, x := range written() {
		c := clone(x.c)
		for i := range c.Nodes {
			for _, at := range numbersOf(&c.Nodes[i]) {
				was := *at
				for _, n := range others(was) {
					*at = n
					wantFalse(t, "a number", evens(), x.w, c)
				}
				*at = was
			}
		}
		wantTaken(t, evens(), x.w, c, c.Nodes[c.Root].Sign)
	}
}

// TestEachSign: no node may have the other sign, with whatever rank.
func TestEachSign(t *testing.T) {
	for _, x := range written() {
		for i := range x.c.Nodes {
			for _, rank := range []int{-1, 0, 1, 2, 9, math.MaxInt} {
				c := clone(x.c)
				c.Nodes[i].Sign, c.Nodes[i].Rank = !c.Nodes[i].Sign, rank
				wantFalse(t, "a sign", evens(), x.w, c)
				c.Nodes[i].Picks = nil
				wantFalse(t, "a sign without picks", evens(), x.w, c)
			}
		}
	}
}

// TestEachLeftOut: no node, pick or kid may be left out, stand twice or elsewhere.
func TestEachLeftOut(t *testing.T) {
	wantNone := func(w string, c api.Cert, change func(c *api.Cert)) {
		t.Helper()
		d := clone(c)
		change(&d)
		wantFalse(t, "another row", evens(), w, d)
	}
	for _, x := range written() {
		for i, n := range x.c.Nodes {
			wantNone(x.w, x.c, func(c *api.Cert) { c.Nodes = slices.Delete(c.Nodes, i, i+1) })
			wantNone(x.w, x.c, func(c *api.Cert) { c.Nodes = c.Nodes[:i] })
			wantNone(x.w, x.c, func(c *api.Cert) { c.Nodes = slices.Insert(c.Nodes, i, c.Nodes[i]) })
			wantNone(x.w, x.c, func(c *api.Cert) { c.Nodes[i].Picks = append(c.Nodes[i].Picks, api.Pick{}) })
			for p, pick := range n.Picks {
				wantNone(x.w, x.c, func(c *api.Cert) { c.Nodes[i].Picks = slices.Delete(c.Nodes[i].Picks, p, p+1) })
				wantNone(x.w, x.c, func(c *api.Cert) { c.Nodes[i].Picks = slices.Insert(c.Nodes[i].Picks, p, pick) })
				wantNone(x.w, x.c, func(c *api.Cert) { c.Nodes[i].Picks[p].Kids = nil })
				for k := range pick.Kids {
					wantNone(x.w, x.c, func(c *api.Cert) {
						c.Nodes[i].Picks[p].Kids = slices.Delete(c.Nodes[i].Picks[p].Kids, k, k+1)
					})
					wantNone(x.w, x.c, func(c *api.Cert) {
						c.Nodes[i].Picks[p].Kids = append(c.Nodes[i].Picks[p].Kids, pick.Kids[k])
					})
				}
			}
			if len(n.Picks) > 1 {
				wantNone(x.w, x.c, func(c *api.Cert) { slices.Reverse(c.Nodes[i].Picks) })
			}
		}
	}
}

// TestRoot: the root is the node of the start and all of the text, wherever that
// is.
func TestRoot(t *testing.T) {
	g, c, at := whole()
	for root := -3; root < len(c.Nodes)+3; root++ {
		c.Root = root
		if root == at[ofName(g.Start, 0, 2)] {
			wantTaken(t, g, "ab", c, true)
		} else {
			wantFalse(t, "another root", g, "ab", c)
		}
	}
	for _, root := range others(at[ofName(g.Start, 0, 2)]) {
		c.Root = root
		wantFalse(t, "another root", g, "ab", c)
	}
	// Of each start that there could be.
	for start := range g.Names {
		g.Start, c.Root = start, at[ofName(start, 0, 2)]
		wantTaken(t, g, "ab", c, c.Nodes[c.Root].Sign)
		for other := range g.Names {
			if g.Start = other; other != start {
				wantFalse(t, "another start", g, "ab", c)
			}
		}
	}
	// The rest at the first place of all, and all of the text.
	g.Start, c.Root = 0, at[seq(0, 0, 0, 0, 2)]
	wantFalse(t, "a rest", g, "ab", c)
	wantFalse(t, "no nodes", g, "ab", api.Cert{})
	wantFalse(t, "a root of no nodes", g, "ab", api.Cert{Root: -1})
}

// TestSameKey: there is one node of each thing, be it said in the same words or
// in other ones.
func TestSameKey(t *testing.T) {
	g, c, _ := whole()
	for i, n := range c.Nodes {
		d := clone(c)
		d.Nodes = append(d.Nodes, n)
		wantFalse(t, "a node twice", g, "ab", d)
		d.Nodes[len(c.Nodes)].Rank++
		wantFalse(t, "a node twice, with another rank", g, "ab", d)
		d = clone(c)
		d.Nodes = slices.Insert(d.Nodes, 0, clone(c).Nodes[i])
		d.Root++
		for _, n := range d.Nodes {
			for _, p := range n.Picks {
				for k := range p.Kids {
					p.Kids[k]++
				}
			}
		}
		wantFalse(t, "a node twice, ahead of all", g, "ab", d)
		d.Nodes = slices.Delete(d.Nodes, 0, 1)
		d.Nodes = slices.Insert(d.Nodes, 0, rest(9, 9, 9, 0, 0, 0))
		wantFalse(t, "a node of nothing", g, "ab", d)
	}
}

// TestRanks: a rank is above those that it leans on, by however much.
func TestRanks(t *testing.T) {
	for _, x := range written() {
		for i, n := range x.c.Nodes {
			c := clone(x.c)
			for _, rank := range others(n.Rank) {
				c.Nodes[i].Rank = rank
				if n.Sign && i == c.Root && rank > n.Rank {
					wantTaken(t, evens(), x.w, c, true)
				} else if !n.Sign || rank < n.Rank {
					wantFalse(t, "a rank", evens(), x.w, c)
				} else {
					wantAgain(t, "a rank", evens(), x.w, c)
				}
			}
		}
		for _, more := range []int{1, 2, 100, 1 << 16, 1 << 32, math.MaxInt - 8} {
			c := clone(x.c)
			for i, n := range c.Nodes {
				if n.Sign {
					c.Nodes[i].Rank += more
				}
			}
			wantTaken(t, evens(), x.w, c, c.Nodes[c.Root].Sign)
		}
	}
}

// TestEqualRanks: of what leans on something the rank is greater, not as great.
func TestEqualRanks(t *testing.T) {
	for _, x := range written() {
		for i, n := range x.c.Nodes {
			for _, p := range n.Picks {
				for _, kid := range p.Kids {
					if c := clone(x.c); n.Sign && c.Nodes[kid].Sign {
						c.Nodes[kid].Rank = n.Rank
						wantFalse(t, "as great as its kid's", evens(), x.w, c)
						c.Nodes[kid].Rank++
						wantFalse(t, "less than its kid's", evens(), x.w, c)
						c.Nodes[i].Rank = math.MinInt
						wantFalse(t, "least of all", evens(), x.w, c)
					}
				}
			}
		}
	}
}

// TestRanksOfKidsThatAreNot: what is not so counts for nothing in a rank.
func TestRanksOfKidsThatAreNot(t *testing.T) {
	g := samples.Read(`start S; S = ~ "a" & ~ "b";`)
	c := api.Cert{Nodes: []api.Node{
		name(0, 0, 0, 1, pick(0, 1, 2)),
		rest(0, 0, 0, 0, 0, 0),
		rest(0, 1, 0, 0, 0, 0),
	}}
	for _, rank := range []int{1, 2, math.MaxInt} {
		c.Nodes[0].Rank = rank
		wantTaken(t, g, "", c, true)
	}
	for _, rank := range []int{0, -1, math.MinInt} {
		c.Nodes[0].Rank = rank
		wantFalse(t, "below 1", g, "", c)
	}
	c.Nodes[0].Rank = 3
	for _, rank := range []int{1, 2, -1, -2, math.MinInt, math.MaxInt} {
		c.Nodes[1].Rank = rank
		wantFalse(t, "a rank of what is not so", g, "", c)
	}
}

// TestOneWayThatEnds: a rank is above all of one way, whichever it is; the other
// ways may lean on what leans on them.
func TestOneWayThatEnds(t *testing.T) {
	g := samples.Read(`start S; S = T & U | T & U | T & U; T = S | ""; U = S | "";`)
	x, _ := mean.New(g, "")
	m := newMaker(x, g, "", eachWay)
	c := m.from()
	root := c.Root
	kids := func(rule int) []int { return c.Nodes[root].Picks[rule].Kids }
	const rank = 50
	c.Nodes[root].Rank = rank
	// What leans on S has another way, but these ways are there.
	c.Nodes[m.at[seq(3, 0, 0, 0, 0)]].Rank, c.Nodes[m.at[seq(5, 0, 0, 0, 0)]].Rank = rank+1, rank+1
	samples.EachChoice(6, 3, func(chosen []int) {
		ends := false
		for rule := range 3 {
			below := true
			for k, kid := range kids(rule) {
				c.Nodes[kid].Rank = rank - 1 + chosen[2*rule+k]
				below = below && chosen[2*rule+k] == 0
			}
			ends = ends || below
		}
		if got := wantAgain(t, "ways", g, "", c); got != ends {
			t.Fatalf("P19.1: %v: %v", chosen, got)
		}
	})
	// The same of a rest: "aa" is S S in three ways.
	g = samples.Read(`start S; S = S S | "a" | "aa" | "";`)
	x, _ = mean.New(g, "aa")
	m = newMaker(x, g, "aa", eachWay)
	c = m.from()
	n := m.at[seq(0, 0, 0, 0, 2)]
	samples.EachChoice(6, 3, func(chosen []int) {
		d := clone(c)
		for p, way := range d.Nodes[n].Picks {
			for k, kid := range way.Kids {
				d.Nodes[kid].Rank += 3 * chosen[2*p+k]
			}
		}
		wantAgain(t, "ways of a rest", g, "aa", d)
	})
}

// TestLeaningOnItself: P19.2: what would be so because it is so is not proved.
func TestLeaningOnItself(t *testing.T) {
	for _, text := range []string{`start S; S = S;`, `start S; S = S S | "b";`, `start S; S = T; T = S | T S;`, `start S; S = S & T | T & S; T = S T | T S | "";`} {
		g := samples.Read(text)
		for _, w := range []string{"a", "aa"} {
			x, _ := mean.New(g, w)
			r := samples.Numbers(196)
			for range 30 {
				l := liar{g, w, make(map[[3]int]int), &r}
				for n := range g.Names {
					for i := range len(w) + 1 {
						for j := i; j <= len(w); j++ {
							if x.Has(n, i, j) || i == 0 && j == len(w) {
								l.names[[3]int{n, i, j}] = 1
							}
						}
					}
				}
				c := newMaker(l, g, w, eachWay).from()
				if x.Has(g.Start, 0, len(w)) || !c.Nodes[c.Root].Sign {
					t.Fatalf("%s, %q: no lie", text, w)
				}
				wantFalse(t, "a lie", g, w, c)
				wantFalse(t, "a lie with other ranks", g, w, ranked(c))
				for i := range c.Nodes {
					c.Nodes[i].Rank = 0
				}
				wantFalse(t, "a lie with the least ranks", g, w, ranked(c))
			}
		}
	}
}
