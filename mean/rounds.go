package mean

import (
	"slices"

	"temple/api"
	"temple/symbols"
)

// fact says that a name or a rest has a span.
type fact struct {
	who, i, j int
}

// rounds gives ranks, when it is known who has what: round by round its number
// to each fact that has a way of facts whose ranks earlier rounds gave. Only
// what the last round found makes new ways, so that a round follows no more.
type rounds struct {
	*work
	round int32
	found []fact
}

// rankAll gives all ranks.
func (k *work) rankAll() {
	r := &rounds{work: k, round: 1}
	r.first()
	for len(r.found) > 0 {
		last := r.found
		r.found = nil
		r.round++
		for _, f := range last {
			r.follow(f)
		}
	}
}

// first is the round of what needs no other fact: rests at their end, and
// names by rules that negate all of their conjuncts.
func (r *rounds) first() {
	for n, p := range r.places {
		if _, ok := symbols.At(r.g, p); !ok {
			r.giveAll(r.names+n, func(i, j int) bool { return i == j })
		}
	}
	for rule, x := range r.g.Rules {
		if !slices.ContainsFunc(x.Conj, func(c api.Conjunct) bool { return !c.Neg }) {
			r.giveAll(x.Head, func(i, j int) bool { return r.holds(rule, i, j) })
		}
	}
}

// giveAll gives this round's rank to all wanted spans of a name or a rest.
func (r *rounds) giveAll(who int, wanted func(i, j int) bool) {
	for i := range r.length + 1 {
		for j := i; j <= r.length; j++ {
			if wanted(i, j) {
				r.give(who, i, j)
			}
		}
	}
}

// give gives a fact this round's rank, unless it has one.
func (r *rounds) give(who, i, j int) {
	rank := r.rank(who, i, j)
	if *rank == 0 {
		*rank = r.round
		r.found = append(r.found, fact{who, i, j})
	}
}

// isGiven: had a fact its rank ahead of this round?
func (r *rounds) isGiven(who, i, j int) bool {
	rank := *r.rank(who, i, j)
	return rank != 0 && rank < r.round
}

// follow gives ranks to what a fact of the last round makes a way for.
func (r *rounds) follow(f fact) {
	if f.who < r.names {
		r.followName(f)
		return
	}
	p := r.places[f.who-r.names]
	if p.Pos == 0 {
		r.followWhole(p.Rule, f)
		return
	}
	p.Pos--
	s, _ := symbols.At(r.g, p)
	r.followRest(s, f)
}

// followName joins a name's span with those of the rests behind the name.
func (r *rounds) followName(f fact) {
	for _, rest := range r.ahead[f.who] {
		for j := range r.has[rest+1].from[f.j].All() {
			if r.isGiven(rest+1, f.j, j) {
				r.give(rest, f.i, j)
			}
		}
	}
}

// followRest joins a rest's span with those of the symbol ahead of it.
func (r *rounds) followRest(s api.Symbol, f fact) {
	if s.Name == symbols.NoName {
		if f.i > 0 && symbols.IsByte(s, r.w[f.i-1]) {
			r.give(f.who-1, f.i-1, f.j)
		}
		return
	}
	for i := range r.has[s.Name].to[f.i].All() {
		if r.isGiven(s.Name, i, f.i) {
			r.give(f.who-1, i, f.j)
		}
	}
}

// followWhole gives a rule's head the span of one of its whole conjuncts, if
// the rule holds of it and the other conjuncts have their ranks.
func (r *rounds) followWhole(rule int, f fact) {
	for conj, c := range r.g.Rules[rule].Conj {
		if !c.Neg && !r.isGiven(r.whole[rule][conj], f.i, f.j) {
			return
		}
	}
	if r.holds(rule, f.i, f.j) {
		r.give(r.g.Rules[rule].Head, f.i, f.j)
	}
}
