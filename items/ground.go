package items

import (
	"temple/api"
	"temple/seqs"
	"temple/symbols"
)

// ground is the places of a grammar, told by their numbers in the row of layer
// 10: the place one on within a conjunct is one more.
type ground struct {
	grammar api.Grammar
	places  []api.Place
	// begins is of each name the places 0 of its rules' conjuncts.
	begins [][]int
	// brings is of each name these, and what the names at them bring.
	brings []set
}

// lay is the ground of g; false, if g may not be.
func lay(g api.Grammar) (*ground, bool) {
	places, e := seqs.Places(g)
	if e != api.OK {
		return nil, false
	}
	out := &ground{grammar: g, places: places, begins: make([][]int, len(g.Names))}
	for n, p := range places {
		if p.Pos == 0 {
			head := g.Rules[p.Rule].Head
			out.begins[head] = append(out.begins[head], n)
		}
	}
	for name := range g.Names {
		out.brings = append(out.brings, out.brought(name))
	}
	return out, true
}

// symbol is what stands at a place; false, if that is its conjunct's end.
func (g *ground) symbol(place int) (api.Symbol, bool) {
	return symbols.At(g.grammar, g.places[place])
}

// name is the name that stands at a place; false, if there is none.
func (g *ground) name(place int) (int, bool) {
	s, ok := g.symbol(place)
	return s.Name, ok && s.Name != symbols.NoName
}

// brought is the places that a name brings.
func (g *ground) brought(name int) set {
	out := none(len(g.places))
	seen := make([]bool, len(g.begins))
	seen[name] = true
	for todo := []int{name}; len(todo) > 0; {
		last := len(todo) - 1
		begins := g.begins[todo[last]]
		todo = todo[:last]
		for _, n := range begins {
			out.add(n)
			if next, ok := g.name(n); ok && !seen[next] {
				seen[next] = true
				todo = append(todo, next)
			}
		}
	}
	return out
}

// closed is some places and all that is brought by the names at them.
func (g *ground) closed(some []int) set {
	out := none(len(g.places))
	for _, n := range some {
		// Whoever brought a place brought what the name at it brings, too.
		if out.has(n) {
			continue
		}
		out.add(n)
		if name, ok := g.name(n); ok {
			out.join(g.brings[name])
		}
	}
	return out
}

// numbers is the numbers of some places; false, if one of them is none.
func (g *ground) numbers(ps []api.Place) ([]int, bool) {
	all := make(map[api.Place]int, len(g.places))
	for n, p := range g.places {
		all[p] = n
	}
	out := make([]int, len(ps))
	for i, p := range ps {
		n, ok := all[p]
		if !ok {
			return nil, false
		}
		out[i] = n
	}
	return out, true
}

// told is the places of a set as they are told.
func (g *ground) told(s set) []api.Place {
	var out []api.Place
	for n := range s.all() {
		out = append(out, g.places[n])
	}
	return out
}
