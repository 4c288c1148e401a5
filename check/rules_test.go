package check_test

import (
	"math"
	"slices"
	"strings"
	"sync"
	"testing"

	"temple/api"
	"temple/check"
	"temple/mean"
	"temple/samples"
)

// TestStaysAsItWas: R4: what is handed in is not changed, its spare room neither,
// whether it is taken or not, and is not kept.
func TestStaysAsItWas(t *testing.T) {
	r := samples.Numbers(197)
	for range 300 {
		g, w := r.Leveled(4), r.Text(4)
		for _, c := range proofs(&r, g, w) {
			if r.Next(2) == 0 {
				bend(&r, &c)
			}
			h, d := samples.Roomy(g), samples.RoomyCert(c)
			sign, e := check.Check(h, w, d)
			if !samples.Same(h, samples.Roomy(g)) || !samples.SameCert(d, samples.RoomyCert(c)) {
				t.Fatalf("R4: %s, %s became %s, %s", brief(g), brief(c), brief(h), brief(d))
			}
			samples.Overwrite(h)
			samples.OverwriteCert(d)
			if again, f := check.Check(g, w, c); again != sign || f != e {
				t.Fatalf("R4: %s, %q, %s: %v, %d, then %v, %d", brief(g), w, brief(c), sign, e, again, f)
			}
		}
	}
	for _, s := range samples.MayNotBe() {
		h, d := samples.Roomy(s.Grammar), samples.RoomyCert(has())
		check.Check(h, "ba", d)
		if !samples.Same(h, samples.Roomy(s.Grammar)) || !samples.SameCert(d, samples.RoomyCert(has())) {
			t.Fatalf("R4: %s: %s, %s", s.What, brief(h), brief(d))
		}
	}
}

// TestEmptyLists: a list of nothing is one, be it nil or not.
func TestEmptyLists(t *testing.T) {
	for _, x := range written() {
		c := clone(x.c)
		for i, n := range c.Nodes {
			if len(n.Picks) == 0 {
				c.Nodes[i].Picks = []api.Pick{}
			}
		}
		wantTaken(t, evens(), x.w, c, c.Nodes[c.Root].Sign)
	}
	wantFalse(t, "no nodes", evens(), "ab", api.Cert{Nodes: []api.Node{}})
	c := hasNot()
	c.Nodes[0].Picks[0].Kids = []int{}
	wantFalse(t, "no kids", evens(), "ab", c)
}

// TestSameCalls: R5: the same calls answer the same, whatever was asked between
// them.
func TestSameCalls(t *testing.T) {
	g := evens()
	for range 200 {
		wantTaken(t, g, "ba", has(), true)
		wantFalse(t, "another text", g, "aa", has())
		wantTaken(t, g, "ab", hasNot(), false)
		wantForm(t, "nothing", api.Grammar{}, "ba", has())
		wantTaken(t, g, "b", hasNotOdd(), false)
		wantForm(t, "too long", g, strings.Repeat("a", 33), has())
	}
}

func TestSeveralGoroutines(t *testing.T) {
	g := evens()
	var group sync.WaitGroup
	for range 8 {
		group.Go(func() {
			for range 200 {
				for _, x := range written() {
					if sign, e := check.Check(g, x.w, x.c); sign != x.c.Nodes[x.c.Root].Sign || e != api.OK {
						t.Errorf("R5: %q: %v, %d", x.w, sign, e)
					}
					if sign, e := check.Check(g, x.w+"a", x.c); sign || e != api.ErrCheckFalse {
						t.Errorf("R5: %q: %v, %d", x.w+"a", sign, e)
					}
				}
			}
		})
	}
	group.Wait()
}

// TestAnyNumbers: R1: no numbers make a panic, wherever they stand.
func TestAnyNumbers(t *testing.T) {
	r := samples.Numbers(198)
	ends := []int{math.MinInt, math.MinInt + 1, -1 << 32, -256, -2, -1, 0, 1, 2, 3, 4, 255, 256, 65535, 1 << 32, math.MaxInt - 1, math.MaxInt}
	for range 20000 {
		c := mixedRow(&r, written()[r.Next(3)].c)
		for range 1 + r.Next(4) {
			n := &c.Nodes[r.Next(len(c.Nodes))]
			all := append(numbersOf(n), &c.Root, &n.Rank)
			*all[r.Next(len(all))] = ends[r.Next(len(ends))]
			if r.Next(5) == 0 {
				n.Sign = !n.Sign
			}
		}
		wantAgain(t, "any numbers", evens(), "ba", c)
	}
	for range 20000 {
		c := r.Cert()
		wantFalse(t, "any proof", evens(), r.Text(4), c)
	}
	for _, g := range samples.AnyNumbers() {
		for _, c := range []api.Cert{{}, has()} {
			if sign, e := check.Check(g, "ba", c); sign || e != api.ErrCheckForm && e != api.ErrCheckFalse {
				t.Fatalf("R1: %s: %v, %d", brief(g), sign, e)
			}
		}
	}
}

// TestGreatProofs: R1: what is far too much is refused in a time that its size
// explains.
func TestGreatProofs(t *testing.T) {
	_, c, at := whole()
	much := func(what string, node about, list []api.Pick) {
		g, d, _ := whole()
		d.Nodes[at[node]].Picks = list
		wantFalse(t, what, g, "ab", d)
	}
	for _, node := range []about{ofName(nameS, 0, 1), ofName(nameD, 0, 2), seq(0, 0, 0, 0, 1), seq(7, 0, 0, 0, 2), seq(5, 0, 0, 1, 2), seq(3, 0, 0, 0, 2), seq(0, 0, 2, 0, 1)} {
		now := c.Nodes[at[node]].Picks
		much("picks", node, make([]api.Pick, 1<<20))
		for _, p := range now {
			much("a pick again and again", node, slices.Repeat([]api.Pick{p}, 1<<20))
		}
		much("kids", node, []api.Pick{pick(0, make([]int, 1<<22)...)})
		much("the picks and more", node, append(slices.Clone(now), make([]api.Pick, 1<<20)...))
	}
	// A million nodes that lean on one another, one of which has no end.
	wantForm(t, "nodes", evens(), "ba", api.Cert{Nodes: slices.Repeat(has().Nodes, 100000)})
}

// TestGreatest: proofs of the greatest grammars and texts, as far as they have no
// more nodes than may be.
func TestGreatest(t *testing.T) {
	taken, most := 0, 0
	for _, g := range samples.Heavy() {
		for _, n := range []int{0, 1, 4, 7, 12, api.MaxInput} {
			w := samples.MixedText[:n]
			x, _ := mean.New(g, w)
			c := newMaker(x, g, w, eachWay).from()
			if len(c.Nodes) > api.MaxNodes {
				wantForm(t, "too many nodes", g, w, c)
				continue
			}
			wantTaken(t, g, w, c, x.Has(g.Start, 0, len(w)))
			taken, most = taken+1, max(most, len(c.Nodes))
			c.Nodes[len(c.Nodes)-1].Rank = -1
			wantFalse(t, "the last node", g, w, c)
		}
	}
	if taken < 30 || most < 30000 {
		t.Errorf("%d taken, of up to %d nodes", taken, most)
	}
}
