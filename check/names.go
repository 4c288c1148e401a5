package check

import "temple/api"

// hasRules: is each pick of a name that has its span a rule that holds of it, and
// is there one?
func (p *proof) hasRules(n api.Node) bool {
	for _, way := range n.Picks {
		if !p.isRuleOf(way.At, n.Name) || !p.holds(way, n) {
			return false
		}
	}
	return len(n.Picks) > 0 && rise(n.Picks)
}

func (p *proof) isRuleOf(rule, head int) bool {
	return 0 <= rule && rule < len(p.g.Rules) && p.g.Rules[rule].Head == head
}

// holds: do a pick's kids say that its rule holds of a node's span?
func (p *proof) holds(way api.Pick, n api.Node) bool {
	conj := p.g.Rules[way.At].Conj
	if way.Conj != 0 || len(way.Kids) != len(conj) {
		return false
	}
	for c, x := range conj {
		if !p.says(way.Kids[c], !x.Neg, whole(way.At, c, n)) {
			return false
		}
	}
	return true
}

// lacksRules: has a name that has not its span a pick for each of its rules, each
// of which fails?
func (p *proof) lacksRules(n api.Node) bool {
	left := n.Picks
	for rule, x := range p.g.Rules {
		if x.Head != n.Name {
			continue
		}
		if len(left) == 0 || left[0].At != rule || !p.fails(left[0], n) {
			return false
		}
		left = left[1:]
	}
	return len(left) == 0
}

// fails: does a pick's kid say that a conjunct of its rule is of a node's span as
// it must not be?
func (p *proof) fails(way api.Pick, n api.Node) bool {
	conj := p.g.Rules[way.At].Conj
	return 0 <= way.Conj && way.Conj < len(conj) && len(way.Kids) == 1 &&
		p.says(way.Kids[0], conj[way.Conj].Neg, whole(way.At, way.Conj, n))
}

// whole is the key of all of a conjunct and a node's span.
func whole(rule, conj int, n api.Node) key {
	return rest(api.Place{Rule: rule, Conj: conj}, n.I, n.J)
}
