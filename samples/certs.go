package samples

import (
	"math"
	"slices"

	"temple/api"
)

// Cert is anything of a proof's form that has bytes, with numbers that are often
// the least or the greatest that fit.
func (r *Numbers) Cert() api.Cert {
	c := api.Cert{Root: r.upTo(math.MaxUint32)}
	for range r.Next(6) {
		c.Nodes = append(c.Nodes, r.node())
	}
	return c
}

func (r *Numbers) node() api.Node {
	n := api.Node{Sign: r.Next(2) == 0, I: r.upTo(math.MaxUint8), J: r.upTo(math.MaxUint8), Rank: r.upTo(math.MaxUint32)}
	if r.Next(2) == 0 {
		n.Kind, n.Name = api.NodeName, r.upTo(math.MaxUint16)
	} else {
		n.Kind, n.Place = api.NodeSeq, api.Place{Rule: r.upTo(math.MaxUint16), Conj: r.upTo(math.MaxUint8), Pos: r.upTo(math.MaxUint8)}
	}
	for range r.Next(4) {
		n.Picks = append(n.Picks, r.pick())
	}
	return n
}

func (r *Numbers) pick() api.Pick {
	p := api.Pick{At: r.upTo(math.MaxUint16), Conj: r.upTo(math.MaxUint8)}
	for range r.Next(4) {
		p.Kids = append(p.Kids, r.upTo(math.MaxUint32))
	}
	return p
}

// upTo is any number from 0 to one that has up to 32 bits, often an end.
func (r *Numbers) upTo(most int) int {
	switch r.Next(4) {
	case 0:
		return 0
	case 1:
		return most
	}
	return (r.Next(1<<16)<<16 + r.Next(1<<16)) % (most + 1)
}

// RoomyCert is c in lists of its own, each with spare room that holds what would
// be seen.
func RoomyCert(c api.Cert) api.Cert {
	out := api.Cert{Root: c.Root}
	out.Nodes = roomy(c.Nodes, api.Node{Name: mark, Picks: []api.Pick{{At: mark, Kids: []int{mark}}}})
	for i, n := range out.Nodes {
		picks := roomy(n.Picks, api.Pick{At: mark, Kids: []int{mark}})
		for j, p := range picks {
			picks[j].Kids = roomy(p.Kids, mark)
		}
		out.Nodes[i].Picks = picks
	}
	return out
}

// OverwriteCert changes all of a proof that can be changed in its lists, their
// spare room too.
func OverwriteCert(c api.Cert) {
	for _, n := range c.Nodes {
		for _, p := range n.Picks {
			overwrite(p.Kids, -1)
		}
		overwrite(n.Picks, api.Pick{At: -1, Kids: []int{-1}})
	}
	overwrite(c.Nodes, api.Node{Kind: -1, Picks: []api.Pick{{At: -1}}})
}

// overwrite fills a list and its spare room.
func overwrite[T any](list []T, with T) {
	for i := range whole(list) {
		whole(list)[i] = with
	}
}

// SameCert: are two proofs the same, the spare room of their lists too?
func SameCert(a, b api.Cert) bool {
	return a.Root == b.Root && len(a.Nodes) == len(b.Nodes) &&
		slices.EqualFunc(whole(a.Nodes), whole(b.Nodes), sameNode)
}

func sameNode(a, b api.Node) bool {
	return a.Sign == b.Sign && a.Kind == b.Kind && a.Name == b.Name && a.Place == b.Place &&
		a.I == b.I && a.J == b.J && a.Rank == b.Rank && len(a.Picks) == len(b.Picks) &&
		slices.EqualFunc(whole(a.Picks), whole(b.Picks), samePick)
}

func samePick(a, b api.Pick) bool {
	return a.At == b.At && a.Conj == b.Conj && len(a.Kids) == len(b.Kids) &&
		slices.Equal(whole(a.Kids), whole(b.Kids))
}
