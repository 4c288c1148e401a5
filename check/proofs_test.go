package check_test

import (
	"slices"

	"temple/api"
	"temple/mean"
	"temple/samples"
	"temple/seqs"
)

// says is whoever says what has which spans, with which ranks: layer 11, or one
// who lies.
type says interface {
	Has(name, i, j int) bool
	Rest(p api.Place, i, j int) bool
	Rank(name, i, j int) int
	RestRank(p api.Place, i, j int) int
}

// about is what a node says something of.
type about struct {
	kind, name int
	place      api.Place
	i, j       int
}

func ofName(name, i, j int) about {
	return about{kind: api.NodeName, name: name, i: i, j: j}
}

func ofRest(p api.Place, i, j int) about {
	return about{kind: api.NodeSeq, place: p, i: i, j: j}
}

func aboutOf(n api.Node) about {
	return about{n.Kind, n.Name, n.Place, n.I, n.J}
}

// asked is a kid, as a way asks for it.
type asked struct {
	about
	sign bool
}

// way is a pick whose kids have no numbers yet.
type way struct {
	at, conj int
	kids     []asked
}

// waysOf is all picks that a node may have, by their At, then Conj.
func waysOf(g api.Grammar, w string, n api.Node) []way {
	if n.Kind == api.NodeName {
		return waysOfName(g, n)
	}
	seq, on := g.Rules[n.Place.Rule].Conj[n.Place.Conj].Seq, n.Place
	on.Pos++
	if n.Place.Pos == len(seq) {
		return nil
	}
	s := seq[n.Place.Pos]
	if s.Name < 0 {
		if n.I < n.J && s.Lo <= int(w[n.I]) && int(w[n.I]) <= s.Hi {
			return []way{{n.I + 1, 0, []asked{{ofRest(on, n.I+1, n.J), n.Sign}}}}
		}
		return nil
	}
	var out []way
	for k := n.I; k <= n.J; k++ {
		left, right := asked{ofName(s.Name, n.I, k), n.Sign}, asked{ofRest(on, k, n.J), n.Sign}
		if n.Sign {
			out = append(out, way{k, 0, []asked{left, right}})
		} else {
			out = append(out, way{k, 0, []asked{left}}, way{k, 0, []asked{right}})
		}
	}
	return out
}

func waysOfName(g api.Grammar, n api.Node) []way {
	var out []way
	for r, x := range g.Rules {
		if x.Head != n.Name {
			continue
		}
		all := way{at: r}
		for c, y := range x.Conj {
			kid := asked{ofRest(api.Place{Rule: r, Conj: c}, n.I, n.J), n.Sign != y.Neg}
			all.kids = append(all.kids, kid)
			if !n.Sign {
				out = append(out, way{r, c, []asked{kid}})
			}
		}
		if n.Sign {
			out = append(out, all)
		}
	}
	return out
}

// maker makes a proof of what somebody says, from some nodes on.
type maker struct {
	says
	g     api.Grammar
	w     string
	at    map[about]int
	nodes []api.Node
	// which is which of the ways that there are a node takes.
	which func(m *maker, n api.Node, ways []way) []way
}

func newMaker(s says, g api.Grammar, w string, which func(m *maker, n api.Node, ways []way) []way) *maker {
	return &maker{says: s, g: g, w: w, at: make(map[about]int), which: which}
}

// rank is the rank of what somebody says; 0, if it is not so.
func (m *maker) rank(k about) int {
	if k.kind == api.NodeName {
		return m.Rank(k.name, k.i, k.j)
	}
	return m.RestRank(k.place, k.i, k.j)
}

// has: does somebody say that it is so?
func (m *maker) has(k about) bool {
	if k.kind == api.NodeName {
		return m.Has(k.name, k.i, k.j)
	}
	return m.Rest(k.place, k.i, k.j)
}

// node is the number of a node, which is made, if there is none.
func (m *maker) node(k about) int {
	if n, ok := m.at[k]; ok {
		return n
	}
	m.at[k] = len(m.nodes)
	m.nodes = append(m.nodes, api.Node{Sign: m.has(k), Kind: k.kind, Name: k.name, Place: k.place, I: k.i, J: k.j, Rank: m.rank(k)})
	return m.at[k]
}

// fits: does somebody say of each kid of a way what the way asks?
func (m *maker) fits(x way) bool {
	return !slices.ContainsFunc(x.kids, func(k asked) bool { return m.has(k.about) != k.sign })
}

// fill gives nodes from a number on their picks, and those that come by that, up
// to more nodes than may be.
func (m *maker) fill(from int) {
	for n := from; n < len(m.nodes) && len(m.nodes) <= api.MaxNodes; n++ {
		ways := slices.DeleteFunc(waysOf(m.g, m.w, m.nodes[n]), func(x way) bool { return !m.fits(x) })
		for _, x := range m.which(m, m.nodes[n], ways) {
			p := api.Pick{At: x.at, Conj: x.conj}
			for _, k := range x.kids {
				p.Kids = append(p.Kids, m.node(k.about))
			}
			m.nodes[n].Picks = append(m.nodes[n].Picks, p)
		}
	}
}

// from is the proof of what the start has, with what it leans on.
func (m *maker) from() api.Cert {
	root := m.node(ofName(m.g.Start, 0, len(m.w)))
	m.fill(root)
	return api.Cert{Root: root, Nodes: m.nodes}
}

// all is the proof of all that there is to say.
func (m *maker) all() api.Cert {
	places, _ := seqs.Places(m.g)
	for i := range len(m.w) + 1 {
		for j := i; j <= len(m.w); j++ {
			for _, p := range places {
				m.node(ofRest(p, i, j))
			}
			for n := range m.g.Names {
				m.node(ofName(n, i, j))
			}
		}
	}
	m.fill(0)
	return api.Cert{Root: m.at[ofName(m.g.Start, 0, len(m.w))], Nodes: m.nodes}
}

// below: have all kids of a way that are so a lesser rank than a node?
func (m *maker) below(n api.Node, x way) bool {
	return !slices.ContainsFunc(x.kids, func(k asked) bool { return k.sign && m.rank(k.about) >= n.Rank })
}

// eachWay takes all ways of what is so; of what is not so the first way of each At.
func eachWay(_ *maker, n api.Node, ways []way) []way {
	if n.Sign {
		return ways
	}
	return slices.CompactFunc(ways, func(a, b way) bool { return a.at == b.at })
}

// oneWay takes of what is so the first way that ends.
func oneWay(m *maker, n api.Node, ways []way) []way {
	if !n.Sign {
		return eachWay(m, n, ways)
	}
	for _, x := range ways {
		if m.below(n, x) {
			return []way{x}
		}
	}
	return nil
}

// lastWay takes the last way that ends; of what is not so the last way of each At.
func lastWay(m *maker, n api.Node, ways []way) []way {
	slices.Reverse(ways)
	ways = oneWay(m, n, ways)
	slices.Reverse(ways)
	return ways
}

// mixedWays takes some of the ways, one that ends among them.
func mixedWays(r *samples.Numbers) func(m *maker, n api.Node, ways []way) []way {
	return func(m *maker, n api.Node, ways []way) []way {
		var out []way
		if !n.Sign {
			for _, x := range ways {
				if last := len(out) - 1; last < 0 || out[last].at != x.at {
					out = append(out, x)
				} else if r.Next(2) == 0 {
					out[last] = x
				}
			}
			return out
		}
		ending := slices.DeleteFunc(slices.Clone(ways), func(x way) bool { return !m.below(n, x) })
		for _, x := range ways {
			if len(ending) == 1 && x.at == ending[0].at || r.Next(2) == 0 {
				out = append(out, x)
			}
		}
		if !slices.ContainsFunc(out, func(x way) bool { return m.below(n, x) }) {
			return ways
		}
		return out
	}
}

// proofs is several proofs of one thing: with few nodes, with many, with nodes
// that nothing needs.
func proofs(r *samples.Numbers, g api.Grammar, w string) []api.Cert {
	t, _ := mean.New(g, w)
	var out []api.Cert
	for _, which := range []func(*maker, api.Node, []way) []way{oneWay, lastWay, eachWay, mixedWays(r)} {
		out = append(out, newMaker(t, g, w, which).from())
	}
	return append(out, newMaker(t, g, w, mixedWays(r)).all())
}

// mixedRow is a proof with its nodes in another row.
func mixedRow(r *samples.Numbers, c api.Cert) api.Cert {
	to := make([]int, len(c.Nodes))
	for i := range to {
		to[i] = i
	}
	for i := range to {
		j := i + r.Next(len(to)-i)
		to[i], to[j] = to[j], to[i]
	}
	out := api.Cert{Root: to[c.Root], Nodes: make([]api.Node, len(to))}
	for i, n := range clone(c).Nodes {
		for _, p := range n.Picks {
			for k, kid := range p.Kids {
				p.Kids[k] = to[kid]
			}
		}
		out.Nodes[to[i]] = n
	}
	return out
}

// clone is a proof in lists of its own.
func clone(c api.Cert) api.Cert {
	c.Nodes = slices.Clone(c.Nodes)
	for i := range c.Nodes {
		c.Nodes[i].Picks = slices.Clone(c.Nodes[i].Picks)
		for k := range c.Nodes[i].Picks {
			c.Nodes[i].Picks[k].Kids = slices.Clone(c.Nodes[i].Picks[k].Kids)
		}
	}
	return c
}
