package check

import (
	"slices"

	"temple/api"
)

// stands: do a node's picks and its rank bear out what it says? All nodes have
// keys that may be.
func (p *proof) stands(n api.Node) bool {
	return p.isPicked(n) && p.isRanked(n)
}

func (p *proof) isPicked(n api.Node) bool {
	switch n.Kind {
	case api.NodeName:
		if n.Sign {
			return p.hasRules(n)
		}
		return p.lacksRules(n)
	case api.NodeSeq:
		return p.isRest(n)
	}
	return false
}

// isRanked: is the rank of what is so above the ranks of what it leans on in one
// of its ways, so that nothing leans on itself in all of them?
func (p *proof) isRanked(n api.Node) bool {
	if !n.Sign {
		return n.Rank == 0
	}
	return n.Rank >= 1 && (len(n.Picks) == 0 || slices.ContainsFunc(n.Picks, func(way api.Pick) bool {
		return p.areBelow(way.Kids, n.Rank)
	}))
}

// areBelow: have all of the kids that are so a lesser rank than this one?
func (p *proof) areBelow(kids []int, rank int) bool {
	for _, kid := range kids {
		if p.nodes[kid].Sign && p.nodes[kid].Rank >= rank {
			return false
		}
	}
	return true
}

// says: is a kid the node of a key, with a sign?
func (p *proof) says(kid int, sign bool, k key) bool {
	return p.isOf(kid, k) && p.nodes[kid].Sign == sign
}

// rise: do the picks stand by their At, none of them twice?
func rise(picks []api.Pick) bool {
	for k := range len(picks) - 1 {
		if picks[k].At >= picks[k+1].At {
			return false
		}
	}
	return true
}
