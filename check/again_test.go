package check_test

import (
	"slices"
	"testing"

	"temple/api"
	"temple/check"
	"temple/mean"
	"temple/samples"
	"temple/seqs"
)

// again is the chapter read once more: of each node all picks that it may have
// are listed, and those that it has are held against them.
type again struct {
	g api.Grammar
	w string
	c api.Cert
}

// taken: is the proof one that is to be taken?
func (a again) taken() bool {
	number := make(map[about]int)
	for i, n := range a.c.Nodes {
		number[aboutOf(n)] = i
	}
	root, ok := number[ofName(a.g.Start, 0, len(a.w))]
	places, _ := seqs.Places(a.g)
	return ok && root == a.c.Root && len(number) == len(a.c.Nodes) && !slices.ContainsFunc(a.c.Nodes, func(n api.Node) bool {
		return !a.isThere(n, places) || !a.isPicked(n) || !a.isRanked(n)
	})
}

// isThere: is a node about one of all things that there are to say?
func (a again) isThere(n api.Node, places []api.Place) bool {
	if n.I < 0 || n.J > len(a.w) || n.I > n.J {
		return false
	}
	return n.Kind == api.NodeName && n.Place == api.Place{} && n.Name >= 0 && n.Name < len(a.g.Names) ||
		n.Kind == api.NodeSeq && n.Name == 0 && slices.Contains(places, n.Place)
}

// isWay: is a pick as a way asks?
func (a again) isWay(p api.Pick, x way) bool {
	return p.At == x.at && p.Conj == x.conj && slices.EqualFunc(p.Kids, x.kids, func(kid int, k asked) bool {
		return kid >= 0 && kid < len(a.c.Nodes) && aboutOf(a.c.Nodes[kid]) == k.about && a.c.Nodes[kid].Sign == k.sign
	})
}

// isPicked: has a node picks that it may have, in their row, and enough of them?
func (a again) isPicked(n api.Node) bool {
	if n.Kind == api.NodeSeq && n.Place.Pos == len(a.g.Rules[n.Place.Rule].Conj[n.Place.Conj].Seq) {
		return len(n.Picks) == 0 && n.Sign == (n.I == n.J)
	}
	var all, picked []int
	ways := waysOf(a.g, a.w, n)
	for _, x := range ways {
		all = append(all, x.at)
	}
	for _, p := range n.Picks {
		if !slices.ContainsFunc(ways, func(x way) bool { return a.isWay(p, x) }) {
			return false
		}
		picked = append(picked, p.At)
	}
	if !n.Sign {
		return slices.Equal(picked, slices.Compact(all))
	}
	sorted := slices.Clone(picked)
	slices.Sort(sorted)
	return len(picked) > 0 && slices.Equal(picked, slices.Compact(sorted))
}

// isRanked: is a node's rank one that it may have, by those of its kids, which
// are nodes?
func (a again) isRanked(n api.Node) bool {
	if !n.Sign {
		return n.Rank == 0
	}
	below := len(n.Picks) == 0
	for _, p := range n.Picks {
		all := true
		for _, kid := range p.Kids {
			all = all && (!a.c.Nodes[kid].Sign || a.c.Nodes[kid].Rank < n.Rank)
		}
		below = below || all
	}
	return below && n.Rank > 0
}

// wantAgain: P19.1: a proof is taken just if the chapter, read once more, says
// so; P19.2: and then it is true. It tells which.
func wantAgain(t *testing.T, what string, g api.Grammar, w string, c api.Cert) bool {
	t.Helper()
	if !(again{g, w, c}).taken() {
		wantFalse(t, what, g, w, c)
		return false
	}
	wantTaken(t, g, w, c, c.Nodes[c.Root].Sign)
	return true
}

// numbersOf is all numbers of a node that may be changed, but for its Rank.
func numbersOf(n *api.Node) []*int {
	out := []*int{&n.Kind, &n.Name, &n.Place.Rule, &n.Place.Conj, &n.Place.Pos, &n.I, &n.J}
	for p := range n.Picks {
		out = append(out, &n.Picks[p].At, &n.Picks[p].Conj)
		for k := range n.Picks[p].Kids {
			out = append(out, &n.Picks[p].Kids[k])
		}
	}
	return out
}

// bend changes something of a proof.
func bend(r *samples.Numbers, c *api.Cert) {
	n := &c.Nodes[r.Next(len(c.Nodes))]
	other := c.Nodes[r.Next(len(c.Nodes))]
	switch r.Next(12) {
	case 0:
		n.Sign = !n.Sign
	case 1:
		n.Rank += r.Next(7) - 3
	case 2:
		numbers := numbersOf(n)
		*numbers[r.Next(len(numbers))] += r.Next(5) - 2
	case 3:
		numbers, others := numbersOf(n), numbersOf(&other)
		at := r.Next(min(len(numbers), len(others)))
		*numbers[at] = *others[at]
	case 4:
		c.Nodes = append(c.Nodes, other)
	case 5:
		last := len(c.Nodes) - 1
		c.Nodes[last], *n = *n, c.Nodes[last]
		c.Nodes = c.Nodes[:last]
	case 6:
		c.Root = r.Next(len(c.Nodes)+2) - 1
	case 7:
		n.Picks = slices.Clone(other.Picks)
	case 8:
		n.Sign, n.Rank, n.Picks = other.Sign, other.Rank, slices.Clone(other.Picks)
	default:
		bendPicks(r, n, len(c.Nodes))
	}
}

// bendPicks changes the row of a node's picks, or of a pick's kids.
func bendPicks(r *samples.Numbers, n *api.Node, nodes int) {
	if len(n.Picks) == 0 {
		n.Picks = []api.Pick{{At: r.Next(3)}}
		return
	}
	p, q := r.Next(len(n.Picks)), r.Next(len(n.Picks))
	kids := n.Picks[p].Kids
	switch r.Next(6) {
	case 0:
		n.Picks = slices.Delete(n.Picks, p, p+1)
	case 1:
		n.Picks = slices.Insert(n.Picks, q, n.Picks[p])
	case 2:
		n.Picks[p], n.Picks[q] = n.Picks[q], n.Picks[p]
	case 3:
		n.Picks[p].Kids = slices.Insert(kids, r.Next(len(kids)+1), r.Next(nodes))
	case 4:
		n.Picks[p].Kids = kids[:max(0, len(kids)-1)]
	default:
		slices.Reverse(kids)
	}
}

// TestBentProofs: true proofs of mixed grammars, with some things changed.
func TestBentProofs(t *testing.T) {
	r := samples.Numbers(193)
	taken, not := 0, 0
	for range 400 {
		g, w := r.Leveled(4), r.Text(4)
		for _, c := range proofs(&r, g, w) {
			if !wantAgain(t, "as it is", g, w, c) {
				t.Fatalf("P19.1: %s, %q: %s", brief(g), w, brief(c))
			}
			for range 20 {
				d := mixedRow(&r, c)
				for range 1 + r.Next(2) {
					bend(&r, &d)
				}
				if wantAgain(t, "bent", g, w, d) {
					taken++
				} else {
					not++
				}
			}
		}
	}
	if taken < 500 || not < 20000 {
		t.Errorf("%d taken, %d not", taken, not)
	}
}

// TestMixedGrammars: of mixed grammars and texts there are proofs of what layer
// 11 says.
func TestMixedGrammars(t *testing.T) {
	r := samples.Numbers(194)
	in, out := 0, 0
	for range 300 {
		g, w := r.Leveled(7), r.Text(8)
		x, _ := mean.New(g, w)
		has := x.Has(g.Start, 0, len(w))
		for _, c := range proofs(&r, g, w) {
			wantTaken(t, g, w, mixedRow(&r, c), has)
		}
		if has {
			in++
		} else {
			out++
		}
	}
	if in < 50 || out < 50 {
		t.Errorf("%d in, %d not", in, out)
	}
}

// liar says of names what was chosen, of rests what comes of that, of ranks any.
type liar struct {
	g     api.Grammar
	w     string
	names map[[3]int]int
	ranks *samples.Numbers
}

func (l liar) Has(name, i, j int) bool {
	return l.names[[3]int{name, i, j}] == 1
}

func (l liar) Rest(p api.Place, i, j int) bool {
	seq := l.g.Rules[p.Rule].Conj[p.Conj].Seq
	if p.Pos == len(seq) {
		return i == j
	}
	s, on := seq[p.Pos], p
	on.Pos++
	if s.Name < 0 {
		return i < j && s.Lo <= int(l.w[i]) && int(l.w[i]) <= s.Hi && l.Rest(on, i+1, j)
	}
	for k := i; k <= j; k++ {
		if l.Has(s.Name, i, k) && l.Rest(on, k, j) {
			return true
		}
	}
	return false
}

func (l liar) Rank(name, i, j int) int {
	if !l.Has(name, i, j) {
		return 0
	}
	return 1 + l.ranks.Next(9)
}

func (l liar) RestRank(p api.Place, i, j int) int {
	if !l.Rest(p, i, j) {
		return 0
	}
	return 1 + l.ranks.Next(9)
}

// ranked is a proof whose ranks are as low as they can be, but where there are
// none that could be.
func ranked(c api.Cert) api.Cert {
	c = clone(c)
	for range c.Nodes {
		for i, n := range c.Nodes {
			least := 0
			for _, p := range n.Picks {
				rank := 1
				for _, kid := range p.Kids {
					rank = max(rank, c.Nodes[kid].Rank+1)
				}
				if least == 0 || rank < least {
					least = rank
				}
			}
			if n.Sign && n.Rank < max(least, 1) && n.Rank < 30 {
				c.Nodes[i].Rank = max(least, 1)
			}
		}
	}
	return c
}

// TestLies: P19.2: of all that one could say of what names have, with whatever
// picks bear it out, nothing is taken but what is so.
func TestLies(t *testing.T) {
	r := samples.Numbers(195)
	lies, truths := 0, 0
	for range 150 {
		g, w := r.Leveled(2), r.Text(1)
		x, _ := mean.New(g, w)
		var keys [][3]int
		for n := range g.Names {
			for i := range len(w) + 1 {
				for j := i; j <= len(w); j++ {
					keys = append(keys, [3]int{n, i, j})
				}
			}
		}
		samples.EachChoice(len(keys), 2, func(chosen []int) {
			l, so := liar{g, w, make(map[[3]int]int), &r}, true
			for i, k := range keys {
				l.names[k] = chosen[i]
				so = so && x.Has(k[0], k[1], k[2]) == (chosen[i] == 1)
			}
			said := newMaker(l, g, w, eachWay).all()
			for _, c := range []api.Cert{said, ranked(said)} {
				if sign, e := check.Check(g, w, c); e == api.OK && !so {
					t.Fatalf("P19.2: %s, %q: %v, but %s is no truth", brief(g), w, sign, brief(c))
				}
			}
			if !so {
				lies++
				return
			}
			truths++
			for i := range said.Nodes {
				said.Nodes[i].Rank = 0
			}
			wantTaken(t, g, w, ranked(said), x.Has(g.Start, 0, len(w)))
		})
	}
	if lies < 1000 || truths != 150 {
		t.Errorf("%d lies, %d truths", lies, truths)
	}
}
