package items

import "temple/api"

// builder is an automaton that is being built.
type builder struct {
	*ground
	states []set
	moves  []api.Move
	// known is the numbers of the states, by their bytes.
	known map[string]int
}

// state is the number of the state that some places close to, a new one if
// there is none yet; false, if that would be one too many.
func (b *builder) state(some []int) (int, bool) {
	places := b.closed(some)
	if n, ok := b.known[string(places)]; ok {
		return n, true
	}
	n := len(b.states)
	if n == api.MaxStates {
		return 0, false
	}
	b.known[string(places)] = n
	b.states = append(b.states, places)
	return n, true
}

// leave makes the moves of a state; false, if there are too many states.
func (b *builder) leave(from int) bool {
	for _, s := range b.steps(b.states[from]) {
		to, ok := b.state(s.on)
		if !ok {
			return false
		}
		b.moves = append(b.moves, api.Move{From: from, Symbol: s.symbol, To: to})
	}
	return true
}

// step is a symbol that stands at some places, and these places one on.
type step struct {
	symbol api.Symbol
	on     []int
}

// steps is the steps from some places, in the row in which their symbols first
// stand there.
func (g *ground) steps(places set) []step {
	var out []step
	rows := make(map[api.Symbol]int)
	for n := range places.all() {
		s, ok := g.symbol(n)
		if !ok {
			continue
		}
		row, ok := rows[s]
		if !ok {
			row = len(out)
			rows[s] = row
			out = append(out, step{symbol: s})
		}
		out[row].on = append(out[row].on, n+1)
	}
	return out
}

// automaton is what is built, as it is told.
func (b *builder) automaton() api.Automaton {
	out := api.Automaton{Moves: b.moves}
	for _, places := range b.states {
		out.States = append(out.States, b.told(places))
	}
	return out
}
