package check

import (
	"temple/api"
	"temple/symbols"
)

// What stands at a place: a name, a range of bytes, or nil at the conjunct's end.
type (
	aName  int
	aRange api.Symbol
)

// isRest: has the rest at a node's place the picks that it must have?
func (p *proof) isRest(n api.Node) bool {
	what := p.ahead(n.Place)
	if s, ok := what.(aRange); ok {
		return p.isOverByte(n, s)
	}
	if s, ok := what.(aName); ok {
		if n.Sign {
			return p.hasSplits(n, s)
		}
		return p.lacksSplits(n, s)
	}
	return n.Sign == (n.I == n.J) && len(n.Picks) == 0
}

func (p *proof) ahead(at api.Place) any {
	s, ok := symbols.At(p.g, at)
	switch {
	case !ok:
		return nil
	case s.Name == symbols.NoName:
		return aRange(s)
	}
	return aName(s.Name)
}

// isOverByte: has a rest that begins with a range just the pick that goes over a
// byte of the range, or, having not its span, none where no such byte comes?
func (p *proof) isOverByte(n api.Node, s aRange) bool {
	if n.I == n.J || !symbols.IsByte(api.Symbol(s), p.w[n.I]) {
		return !n.Sign && len(n.Picks) == 0
	}
	if len(n.Picks) != 1 {
		return false
	}
	way := n.Picks[0]
	return way.At == n.I+1 && way.Conj == 0 && len(way.Kids) == 1 &&
		p.says(way.Kids[0], n.Sign, rest(next(n.Place), n.I+1, n.J))
}

// hasSplits: is each pick of a rest that begins with a name, and has its span, a
// point up to which the name has it, and from which on the rest does, and is
// there one?
func (p *proof) hasSplits(n api.Node, s aName) bool {
	for _, way := range n.Picks {
		if way.At < n.I || way.At > n.J || way.Conj != 0 || len(way.Kids) != 2 ||
			!p.says(way.Kids[0], true, name(int(s), n.I, way.At)) ||
			!p.says(way.Kids[1], true, rest(next(n.Place), way.At, n.J)) {
			return false
		}
	}
	return len(n.Picks) > 0 && rise(n.Picks)
}

// lacksSplits: has a rest that begins with a name, and has not its span, a pick
// for each point, up to which the name has it not, or from which on the rest does
// not?
func (p *proof) lacksSplits(n api.Node, s aName) bool {
	if len(n.Picks) != n.J-n.I+1 {
		return false
	}
	for k, way := range n.Picks {
		if way.At != n.I+k || way.Conj != 0 || len(way.Kids) != 1 {
			return false
		}
		if !p.says(way.Kids[0], false, name(int(s), n.I, way.At)) &&
			!p.says(way.Kids[0], false, rest(next(n.Place), way.At, n.J)) {
			return false
		}
	}
	return true
}

// next is the place one on.
func next(at api.Place) api.Place {
	at.Pos++
	return at
}
